/-
  The document's reader of filters' texts (rosterref10): letters, digits, faults, the byte that comes next, a number.
-/
import Derived.Test.YtfkepclgadeeeaaGreatDoorQB
namespace Go.Proofs.YtfkepclgadeeeaaGreatDoor
open Go.RowKit

set_option maxHeartbeats 400000 in
theorem rLet_any (b : UInt8) (w : World) : Calls Tryz.prog 72 #[.int .u8 b.toNat] w fun e w' => e = .returned (.bool (tLet b)) ∧ w' = w := by
  have hb := b.toNat_lt
  have hu : tLet b = ((decide (97 ≤ b.toNat) && decide (b.toNat ≤ 122)) || (decide (65 ≤ b.toNat) && decide (b.toNat ≤ 90))) := rfl
  rw [hu]; clear hu
  generalize b.toNat = c at *
  rcases (show c < 65 ∨ (65 ≤ c ∧ c ≤ 90) ∨ (91 ≤ c ∧ c < 97) ∨ (97 ≤ c ∧ c ≤ 122) ∨ 123 ≤ c by omega) with h | ⟨h1, h2⟩ | ⟨h1, h2⟩ | ⟨h1, h2⟩ | h
  all_goals
    go_enter Tryz.func72, Tryz.ntmps72
    go_wp2
    go_ret
    refine ⟨ret_b ?_, rfl⟩
    first | rfl | (rw [Bool.eq_iff_iff]; simp; omega) | (rw [Bool.eq_iff_iff]; simp; done)
set_option maxHeartbeats 400000 in
theorem rDig_any (b : UInt8) (w : World) : Calls Tryz.prog 74 #[.int .u8 b.toNat] w fun e w' => e = .returned (.bool (tDig b)) ∧ w' = w := by
  have hb := b.toNat_lt
  have hu : tDig b = (decide (48 ≤ b.toNat) && decide (b.toNat ≤ 57)) := rfl
  rw [hu]; clear hu
  generalize b.toNat = c at *
  rcases (show c < 48 ∨ (48 ≤ c ∧ c ≤ 57) ∨ 58 ≤ c by omega) with h | ⟨h1, h2⟩ | h
  all_goals
    go_enter Tryz.func74, Tryz.ntmps74
    go_wp2
    go_ret
    refine ⟨ret_b ?_, rfl⟩
    first | rfl | (rw [Bool.eq_iff_iff]; simp; omega) | (rw [Bool.eq_iff_iff]; simp; done)
set_option maxHeartbeats 400000 in
theorem rInn_any (b : UInt8) (w : World) : Calls Tryz.prog 57 #[.int .u8 b.toNat] w fun e w' => e = .returned (.bool (tInn b)) ∧ w' = w := by
  have h1 := rLet_any b
  have h2 := rDig_any b
  have hu : tInn b = (tLet b || tDig b || ((b.toNat : Int) == 45)) := by
    unfold tInn; rw [← beq_int b 45]; rfl
  rw [hu]; clear hu
  generalize tLet b = x at *
  generalize tDig b = y at *
  cases x <;> cases y
  all_goals
    go_enter Tryz.func57, Tryz.ntmps57
    go_wp2_with (first | (go_at_call 72; refine (h1 _).mono ?_; rintro _ _ ⟨rfl, rfl⟩) | (go_at_call 74; refine (h2 _).mono ?_; rintro _ _ ⟨rfl, rfl⟩))
    go_ret
    refine ⟨ret_b ?_, rfl⟩
    simp

/-- a fault: code, place, word -/
structure FtR where
  c : Nat
  a : Nat
  wd : ByteArray
def okF : FtR := ⟨0, 0, ⟨#[]⟩⟩
/-- a fault of that code at that place -/
def flF (s : ByteArray) (c q : Nat) : FtR := ⟨c, q, if q < s.size then s.extract q (q + 1) else ⟨#[]⟩⟩
/-- what cannot stand at that place -/
def stF (s : ByteArray) (q : Nat) : FtR := flF s (stuckC s q) q
/-- the document's reader in memory -/
def RfT (w : World) (R : Nat) (s : ByteArray) (p k : Nat) (f : FtR) : Prop :=
  w.heap[R]? = some (.cells #[.string s, .int .i64 p, .int .i64 k, .int .i64 f.c, .int .i64 f.a, .string f.wd] 44 (0, 0))
theorem RfT.cells {w : World} {R : Nat} {s : ByteArray} {p k : Nat} {f : FtR} (h : RfT w R s p k f) :
    w.cell? ⟨R, 0, none⟩ = some (.string s) ∧ w.cell? ⟨R, 1, none⟩ = some (.int .i64 p) ∧ w.cell? ⟨R, 2, none⟩ = some (.int .i64 k) ∧ w.cell? ⟨R, 3, none⟩ = some (.int .i64 f.c) ∧ w.cell? ⟨R, 4, none⟩ = some (.int .i64 f.a) ∧ w.cell? ⟨R, 5, none⟩ = some (.string f.wd) ∧ (∀ j, w.frozen? ⟨R, j, none⟩ = false) :=
  ⟨cell_of_row _ _ 0 _ _ _ h, cell_of_row _ _ 1 _ _ _ h, cell_of_row _ _ 2 _ _ _ h, cell_of_row _ _ 3 _ _ _ h, cell_of_row _ _ 4 _ _ _ h, cell_of_row _ _ 5 _ _ _ h, fun j => by simp [World.frozen?, show w.heap[R]? = _ from h]⟩
section
variable {w : World} {R : Nat} {s : ByteArray} {p k : Nat} {f : FtR}
theorem RfT.set1 (h : RfT w R s p k f) (q : Nat) : RfT (w.setCell ⟨R, 1, none⟩ (.int .i64 q)) R s q k f := heap_setCell_at w R 1 _ _ _ _ h
theorem RfT.set3 (h : RfT w R s p k f) (q : Nat) : RfT (w.setCell ⟨R, 3, none⟩ (.int .i64 q)) R s p k ⟨q, f.a, f.wd⟩ := heap_setCell_at w R 3 _ _ _ _ h
theorem RfT.set4 (h : RfT w R s p k f) (q : Nat) : RfT (w.setCell ⟨R, 4, none⟩ (.int .i64 q)) R s p k ⟨f.c, q, f.wd⟩ := heap_setCell_at w R 4 _ _ _ _ h
theorem RfT.set5 (h : RfT w R s p k f) (q : ByteArray) : RfT (w.setCell ⟨R, 5, none⟩ (.string q)) R s p k ⟨f.c, f.a, q⟩ := heap_setCell_at w R 5 _ _ _ _ h
theorem RfT.drewN (h : RfT w R s p k f) (n : Nat) : RfT (w.drewN n) R s p k f := h
theorem RfT.ext {w' : World} (h : RfT w R s p k f) (x : Ext w w') : RfT w' R s p k f := (x.block R (Array.getElem?_eq_some_iff.1 h).1).trans h
end

set_option maxHeartbeats 1000000 in
theorem fails_any (w : World) (R : Nat) (s : ByteArray) (p k c q : Nat) (hr : RfT w R s p k okF) (hs : s.size ≤ 140737488355328) (hq : q ≤ s.size) :
    Calls Tryz.prog 18 #[.pointer (some ⟨R, 0, none⟩), .int .i64 c, .int .i64 q] w fun e w' => e = .returned (.bool false) ∧ RfT w' R s p k (flF s c q) ∧ Only (fun g => g = R) w w' := by
  obtain ⟨c0, c1, c2, c3, c4, c5, fz⟩ := hr.cells
  have hrh : Hid (RfT w R s p k okF) := hr
  simp only [okF] at c3 c4 c5
  clear hr c1 c2
  by_cases hlt : q < s.size
  · have hlti : (q : Int) < (s.size : Int) := by omega
    have hv : Hid (flF s c q = ⟨c, q, s.extract q (q + 1)⟩) := by show _ = _; unfold flF; rw [if_pos hlt]
    go_enter Tryz.func18, Tryz.ntmps18
    go_wp2
    go_ret
    refine ⟨rfl, ?_, (((setOnly w R 3 _).then (setOnly _ R 4 _)).then (setOnly _ R 5 _)).then (setOnly _ R 5 _)⟩
    rw [hv.out]
    exact (((hrh.out.set3 c).set4 q).set5 ⟨#[]⟩).set5 _
  · have hlti : decide (q < s.size) = false := by simp; omega
    have hlti2 : ¬ (q : Int) < (s.size : Int) := by omega
    have hv : Hid (flF s c q = ⟨c, q, ⟨#[]⟩⟩) := by show _ = _; unfold flF; rw [if_neg hlt]
    go_enter Tryz.func18, Tryz.ntmps18
    go_wp2
    go_ret
    refine ⟨rfl, ?_, ((setOnly w R 3 _).then (setOnly _ R 4 _)).then (setOnly _ R 5 _)⟩
    rw [hv.out]
    exact ((hrh.out.set3 c).set4 q).set5 ⟨#[]⟩

set_option maxHeartbeats 1000000 in
theorem stuck_any (w : World) (R : Nat) (s : ByteArray) (p k : Nat) (hr : RfT w R s p k okF) (hs : s.size ≤ 140737488355328) (hp : p ≤ s.size) :
    Calls Tryz.prog 11 #[.pointer (some ⟨R, 0, none⟩)] w fun e w' => e = .returned (.bool false) ∧ RfT w' R s p k (stF s p) ∧ Only (fun g => g = R) w w' := by
  obtain ⟨c0, c1, c2, c3, c4, c5, fz⟩ := hr.cells
  have hrh : Hid (RfT w R s p k okF) := hr
  clear hr c2 c3 c4 c5 fz
  by_cases h : p = s.size
  · have hi : (s.size : Int) ≤ (p : Int) := by omega
    have hv : Hid (stF s p = flF s 5 p) := by show _ = _; unfold stF stuckC; rw [if_pos h]
    clear h
    go_enter Tryz.func11, Tryz.ntmps11
    go_wp2_with fail
    go_quiet (fail)
    go_wp2_with fail
    go_at_call 18
    refine (fails_any _ R s p k 5 p (hrh.out.drewN _) hs hp).mono ?_
    rintro _ w1 ⟨rfl, r1, o1⟩
    go_wp2
    go_ret
    rw [hv.out]
    exact ⟨rfl, r1, ((Only.refl _ w).drewN _).then o1⟩
  · have hi : decide (s.size ≤ p) = false := by simp; omega
    have hv : Hid (stF s p = flF s 50 p) := by show _ = _; unfold stF stuckC; rw [if_neg h]
    clear h
    go_enter Tryz.func11, Tryz.ntmps11
    go_wp2_with fail
    go_quiet (fail)
    go_wp2_with fail
    go_at_call 18
    refine (fails_any _ R s p k 50 p (hrh.out.drewN _) hs hp).mono ?_
    rintro _ w1 ⟨rfl, r1, o1⟩
    go_wp2
    go_ret
    rw [hv.out]
    exact ⟨rfl, r1, ((Only.refl _ w).drewN _).then o1⟩

set_option maxRecDepth 100000 in
set_option maxHeartbeats 2000000 in
theorem next_any (w : World) (R : Nat) (s : ByteArray) (p k : Nat) (f : FtR) (b : UInt8) (hr : RfT w R s p k f) :
    Calls Tryz.prog 17 #[.pointer (some ⟨R, 0, none⟩), .int .u8 b.toNat] w fun e w' => e = .returned (.bool (hdIs b ((byt s).drop p))) ∧ ∃ m, w' = w.drewN m := by
  obtain ⟨c0, c1, c2, c3, c4, c5, fz⟩ := hr.cells
  clear hr c2 c3 c4 c5 fz
  by_cases hlt : p < s.size
  · have hlti : (p : Int) < (s.size : Int) := by omega
    have hv : Hid (hdIs b ((byt s).drop p) = ((s[p].toNat : Int) == (b.toNat : Int))) := by show _ = _; rw [hdIs_in s p hlt, beq_int]
    go_enter Tryz.func17, Tryz.ntmps17
    go_wp2_with fail
    go_quiet (fail)
    go_wp2
    go_ret
    exact ⟨ret_b hv.out.symm, _, rfl⟩
  · have hlti : decide (p < s.size) = false := by simp; omega
    have hv : Hid (hdIs b ((byt s).drop p) = false) := hdIs_out s p hlt b
    go_enter Tryz.func17, Tryz.ntmps17
    go_wp2_with fail
    go_quiet (fail)
    go_wp2
    go_ret
    exact ⟨ret_b hv.out.symm, _, rfl⟩

set_option maxHeartbeats 1000000 in
theorem takes_any (w : World) (R : Nat) (s : ByteArray) (p k : Nat) (b : UInt8) (hr : RfT w R s p k okF) (hs : s.size ≤ 140737488355328) (hp : p ≤ s.size) :
    Calls Tryz.prog 21 #[.pointer (some ⟨R, 0, none⟩), .int .u8 b.toNat] w fun e w' => e = .returned (.bool (hdIs b ((byt s).drop p))) ∧ RfT w' R s (if hdIs b ((byt s).drop p) then p + 1 else p) k (if hdIs b ((byt s).drop p) then okF else stF s p) ∧ Only (fun g => g = R) w w' := by
  have hn := next_any w R s p k okF b hr
  have hp2 : hdIs b ((byt s).drop p) = true → p < s.size := fun h => hdIs_lt h
  generalize hdIs b ((byt s).drop p) = q at *
  cases q
  · have hrh : Hid (RfT w R s p k okF) := hr
    clear hr hp2
    go_enter Tryz.func21, Tryz.ntmps21
    go_wp2_with fail
    go_at_call 17
    refine hn.mono ?_
    rintro _ _ ⟨rfl, m, rfl⟩
    go_wp2_with fail
    go_at_call 11
    refine (stuck_any _ R s p k (hrh.out.drewN m) hs hp).mono ?_
    rintro _ w1 ⟨rfl, r1, o1⟩
    go_wp2
    go_ret
    exact ⟨rfl, r1, ((Only.refl _ w).drewN m).then o1⟩
  · have hlt := hp2 rfl
    have hrh : Hid (RfT w R s p k okF) := hr
    obtain ⟨c0, c1, c2, c3, c4, c5, fz⟩ := hr.cells
    clear hr hp2 c0 c2 c3 c4 c5
    obtain ⟨q, hq⟩ : ∃ q, Hid (q = p + 1) := ⟨_, rfl⟩
    have hqi : (p : Int) + 1 = (q : Int) := by have := hq.out; omega
    go_enter Tryz.func21, Tryz.ntmps21
    go_wp2_with fail
    go_at_call 17
    refine hn.mono ?_
    rintro _ _ ⟨rfl, m, rfl⟩
    go_wp2
    go_ret
    refine ⟨rfl, ?_, ((Only.refl _ w).drewN m).then (setOnly _ R 1 _)⟩
    rw [← hq.out]
    exact (hrh.out.drewN m).set1 q
end Go.Proofs.YtfkepclgadeeeaaGreatDoor

/-
  The document's reader: a number.
-/
namespace Go.Proofs.YtfkepclgadeeeaaGreatDoor
open Go.RowKit

/-- what is left of a number that began at p, at i -/
def numL (s : ByteArray) (p i : Nat) : Nat := if i = p then numN ((byt s).drop p) else if hdIs 48 ((byt s).drop p) then 0 else spanN tDig ((byt s).drop i)
structure NumI (s : ByteArray) (p i : Nat) : Prop where
  sum : p + numN ((byt s).drop p) = i + numL s p i
  one : hdIs 48 ((byt s).drop p) = true → i ≤ p + 1
theorem dig48 (b : UInt8) (h : (b == 48) = true) : tDig b = true := by
  have : b = 48 := by simpa using h
  subst this; rfl
theorem NumI.start (s : ByteArray) (p : Nat) : NumI s p p := ⟨by unfold numL; rw [if_pos rfl], fun _ => by omega⟩
theorem NumI.end_ {s : ByteArray} {p i : Nat} (h : NumI s p i) (hi : ¬ i < s.size) : p + numN ((byt s).drop p) = i := by
  rw [h.sum]
  unfold numL
  split
  · rename_i e; subst e
    unfold numN
    rw [hdIs_out s i hi, spanN_out _ s i hi]; rfl
  · split
    · rfl
    · rw [spanN_out _ s i hi]; rfl
theorem NumI.stop {s : ByteArray} {p i : Nat} (h : NumI s p i) (hi : i < s.size) (hd : tDig s[i] = false) : p + numN ((byt s).drop p) = i := by
  rw [h.sum]
  unfold numL
  split
  · rename_i e; subst e
    unfold numN
    rw [hdIs_in s i hi, spanN_in _ s i hi, hd]
    cases h4 : (s[i] == 48)
    · rfl
    · rw [dig48 _ h4] at hd; cases hd
  · split
    · rfl
    · rw [spanN_in _ s i hi, hd]; rfl
theorem NumI.nought {s : ByteArray} {p i : Nat} (h : NumI s p i) (hi : i = p + 1) (h0 : hdIs 48 ((byt s).drop p) = true) : p + numN ((byt s).drop p) = i := by
  rw [h.sum]
  unfold numL
  rw [if_neg (by omega), if_pos h0]
  rfl
theorem NumI.go {s : ByteArray} {p i : Nat} (h : NumI s p i) (hpi : p ≤ i) (hi : i < s.size) (hd : tDig s[i] = true) (hn : ¬ (i = p + 1 ∧ hdIs 48 ((byt s).drop p) = true)) : NumI s p (i + 1) := by
  have hsum := h.sum
  refine ⟨?_, fun h4 => ?_⟩
  · rw [hsum]
    unfold numL
    rw [if_neg (show ¬ i + 1 = p by omega)]
    split
    · rename_i e; subst e
      unfold numN
      split
      · rfl
      · rw [spanN_in _ s i hi, hd, if_pos rfl]; omega
    · rename_i e
      split
      · rename_i h4
        have := h.one h4
        exact absurd ⟨by omega, h4⟩ hn
      · rw [spanN_in _ s i hi, hd, if_pos rfl]; omega
  · have := h.one h4
    rcases Nat.lt_or_ge i (p + 1) with q | q
    · omega
    · exact absurd ⟨by omega, h4⟩ hn

/-- the fault behind a number -/
def numF (s : ByteArray) (p : Nat) : FtR := if 0 < numN ((byt s).drop p) then okF else stF s p
theorem numF_yes {s : ByteArray} {p : Nat} (h : 0 < numN ((byt s).drop p)) : numF s p = okF := if_pos h
theorem numF_no {s : ByteArray} {p : Nat} (h : numN ((byt s).drop p) = 0) : numF s p = stF s p := if_neg (by omega)
set_option maxRecDepth 100000 in
set_option maxHeartbeats 4000000 in
theorem rnumber_any (w : World) (R : Nat) (s : ByteArray) (p k : Nat) (hr : RfT w R s p k okF) (hs : s.size ≤ 140737488355328) (hp : p ≤ s.size) :
    Calls Tryz.prog 73 #[.pointer (some ⟨R, 0, none⟩)] w fun e w' => e = .returned (.bool (decide (0 < numN ((byt s).drop p)))) ∧ RfT w' R s (p + numN ((byt s).drop p)) k (numF s p) ∧ Only (fun g => g = R) w w' := by
  have hf := fun b w => rDig_any b w
  obtain ⟨c0, c1, c2, c3, c4, c5, fz⟩ := hr.cells
  have hrh : Hid (RfT w R s p k okF) := hr
  clear c0 c2 c3 c4 c5 hr
  go_enter Tryz.func73, Tryz.ntmps73
  go_wp2
  clear c1 fz
  go_loopg [] s.size (fun n wr => ∃ i : Nat, p ≤ i ∧ i ≤ s.size ∧ s.size - i ≤ n ∧ RfT wr R s i k okF ∧ Only (fun g => g = R) w wr ∧ Hid (NumI s p i))
  case atStart => exact ⟨p, Nat.le_refl _, hp, by omega, hrh.out, Only.refl _ _, NumI.start s p⟩
  case round =>
    obtain ⟨i, hpi, his, hn, hr, ho, hsp⟩ := hrel
    obtain ⟨c0, c1, c2, c3, c4, c5, fz⟩ := hr.cells
    have hrh : Hid (RfT wr R s i k okF) := hr
    have hoh : Hid (Only (fun g => g = R) w wr) := ho
    have hS := fun w1 (r1 : RfT w1 R s i k okF) => stuck_any w1 R s i k r1 hs his
    clear hr ho c2 c3 c4 c5
    by_cases hlt : i < s.size
    · have hlti : (i : Int) < (s.size : Int) := by omega
      have hfi := fun w => hf s[i] w
      cases hd : tDig s[i]
      · have he : Hid (p + numN ((byt s).drop p) = i) := hsp.out.stop hlt hd
        rw [hd] at hfi
        clear hd hf hsp
        by_cases hip : i = p
        · have hiph : Hid (i = p) := hip
          have heq : ((i : Int) == (p : Int)) = true := by simp; omega
          have hz : Hid (numN ((byt s).drop p) = 0) := by have := he.out; show _ = _; omega
          clear he hip
          go_wp2_with fail
          go_quiet (fail)
          have r1 := hrh.out.drewN nq
          have o1 := hoh.out.drewN nq
          clear c0 c1 fz hrh hoh
          generalize wr.drewN nq = w1 at *
          have hrh : Hid (RfT w1 R s i k okF) := r1
          have hoh : Hid (Only (fun g => g = R) w w1) := o1
          obtain ⟨c0, c1, c2, c3, c4, c5, fz⟩ := r1.cells
          clear r1 o1 c2 c3 c4 c5
          go_wp2_with fail
          go_quiet (first | (go_at_call 74; exact Calls.quiet_of_same (hfi _)))
          go_wp2_with fail
          go_at_call 11
          refine (hS _ (hrh.out.drewN _)).mono ?_
          rintro _ w2 ⟨rfl, r2, o2⟩
          go_wp2
          go_ret
          rw [numF_no hz.out, hz.out, ← hiph.out]
          exact ⟨rfl, r2, (hoh.out.drewN _).then o2⟩
        · have hne : ((i : Int) == (p : Int)) = false := by simp; omega
          have hz : Hid (0 < numN ((byt s).drop p)) := by have := he.out; show _ < _; omega
          clear hip
          go_wp2_with fail
          go_quiet (fail)
          have r1 := hrh.out.drewN nq
          have o1 := hoh.out.drewN nq
          clear c0 c1 fz hrh hoh
          generalize wr.drewN nq = w1 at *
          have hrh : Hid (RfT w1 R s i k okF) := r1
          have hoh : Hid (Only (fun g => g = R) w w1) := o1
          obtain ⟨c0, c1, c2, c3, c4, c5, fz⟩ := r1.cells
          clear r1 o1 c2 c3 c4 c5
          go_wp2_with fail
          go_quiet (first | (go_at_call 74; exact Calls.quiet_of_same (hfi _)))
          go_wp2
          go_ret
          rw [decide_eq_true hz.out, numF_yes hz.out, he.out]
          exact ⟨rfl, hrh.out.drewN _, hoh.out.drewN _⟩
      · rw [hd] at hfi
        by_cases hip : i = p + 1
        · have hp0 : p < s.size := by omega
          have hpi2 : (p : Int) < (s.size : Int) := by omega
          have hii : ((i : Int) == (p : Int) + 1) = true := by simp; omega
          cases h4 : (s[p] == 48)
          · have h4i : ((s[p].toNat : Int) == 48) = false := by rw [← h4, ← beq_int]; rfl
            have hg : Hid (NumI s p (i + 1)) := hsp.out.go hpi hlt hd (fun h => by rw [hdIs_in s p hp0, h4] at h; cases h.2)
            obtain ⟨m, rfl⟩ : ∃ m, gk = m + 1 := ⟨gk - 1, by omega⟩
            obtain ⟨j, hj⟩ : ∃ j, Hid (j = i + 1) := ⟨_, rfl⟩
            have hji : (i : Int) + 1 = (j : Int) := by have := hj.out; omega
            clear hd hf hsp hip h4
            go_wp2_with fail
            go_quiet (fail)
            have r1 := hrh.out.drewN nq
            have o1 := hoh.out.drewN nq
            clear c0 c1 fz hrh hoh
            generalize wr.drewN nq = w1 at *
            have hrh : Hid (RfT w1 R s i k okF) := r1
            have hoh : Hid (Only (fun g => g = R) w w1) := o1
            obtain ⟨c0, c1, c2, c3, c4, c5, fz⟩ := r1.cells
            clear r1 o1 c2 c3 c4 c5
            go_wp2_with fail
            go_quiet (first | (go_at_call 74; exact Calls.quiet_of_same (hfi _)))
            go_wp2
            go_roundg m
            case measure => omega
            case rel =>
              have hj2 := hj.out
              refine ⟨j, by omega, by omega, by omega, (hrh.out.drewN _).set1 j, (hoh.out.drewN _).then (setOnly _ R 1 _), ?_⟩
              rw [hj2]
              exact hg
          · have h4i : ((s[p].toNat : Int) == 48) = true := by rw [← h4, ← beq_int]; rfl
            have he : Hid (p + numN ((byt s).drop p) = i) := hsp.out.nought hip (by rw [hdIs_in s p hp0, h4])
            have hne : ((i : Int) == (p : Int)) = false := by simp; omega
            have hz : Hid (0 < numN ((byt s).drop p)) := by have := he.out; show _ < _; omega
            clear hd hf hsp hip h4
            go_wp2_with fail
            go_quiet (fail)
            have r1 := hrh.out.drewN nq
            have o1 := hoh.out.drewN nq
            clear c0 c1 fz hrh hoh
            generalize wr.drewN nq = w1 at *
            have hrh : Hid (RfT w1 R s i k okF) := r1
            have hoh : Hid (Only (fun g => g = R) w w1) := o1
            obtain ⟨c0, c1, c2, c3, c4, c5, fz⟩ := r1.cells
            clear r1 o1 c2 c3 c4 c5
            go_wp2_with fail
            go_quiet (first | (go_at_call 74; exact Calls.quiet_of_same (hfi _)))
            go_wp2
            go_ret
            rw [decide_eq_true hz.out, numF_yes hz.out, he.out]
            exact ⟨rfl, hrh.out.drewN _, hoh.out.drewN _⟩
        · have hii : ((i : Int) == (p : Int) + 1) = false := by simp; omega
          have hg : Hid (NumI s p (i + 1)) := hsp.out.go hpi hlt hd (fun h => hip h.1)
          obtain ⟨m, rfl⟩ : ∃ m, gk = m + 1 := ⟨gk - 1, by omega⟩
          obtain ⟨j, hj⟩ : ∃ j, Hid (j = i + 1) := ⟨_, rfl⟩
          have hji : (i : Int) + 1 = (j : Int) := by have := hj.out; omega
          clear hd hf hsp hip
          go_wp2_with fail
          go_quiet (fail)
          have r1 := hrh.out.drewN nq
          have o1 := hoh.out.drewN nq
          clear c0 c1 fz hrh hoh
          generalize wr.drewN nq = w1 at *
          have hrh : Hid (RfT w1 R s i k okF) := r1
          have hoh : Hid (Only (fun g => g = R) w w1) := o1
          obtain ⟨c0, c1, c2, c3, c4, c5, fz⟩ := r1.cells
          clear r1 o1 c2 c3 c4 c5
          go_wp2_with fail
          go_quiet (first | (go_at_call 74; exact Calls.quiet_of_same (hfi _)))
          go_wp2
          go_roundg m
          case measure => omega
          case rel =>
            have hj2 := hj.out
            refine ⟨j, by omega, by omega, by omega, (hrh.out.drewN _).set1 j, (hoh.out.drewN _).then (setOnly _ R 1 _), ?_⟩
            rw [hj2]
            exact hg
    · have hlti : decide (i < s.size) = false := by simp; omega
      have he : Hid (p + numN ((byt s).drop p) = i) := hsp.out.end_ hlt
      clear hf hsp
      by_cases hip : i = p
      · have hiph : Hid (i = p) := hip
        have heq : ((i : Int) == (p : Int)) = true := by simp; omega
        have hz : Hid (numN ((byt s).drop p) = 0) := by have := he.out; show _ = _; omega
        clear he hip
        go_wp2_with fail
        go_quiet (fail)
        go_wp2_with fail
        go_at_call 11
        refine (hS _ (hrh.out.drewN _)).mono ?_
        rintro _ w2 ⟨rfl, r2, o2⟩
        go_wp2
        go_ret
        rw [numF_no hz.out, hz.out, ← hiph.out]
        exact ⟨rfl, r2, (hoh.out.drewN _).then o2⟩
      · have hne : ((i : Int) == (p : Int)) = false := by simp; omega
        have hz : Hid (0 < numN ((byt s).drop p)) := by have := he.out; show _ < _; omega
        clear hip
        go_wp2_with fail
        go_quiet (fail)
        go_wp2
        go_ret
        rw [decide_eq_true hz.out, numF_yes hz.out, he.out]
        exact ⟨rfl, hrh.out.drewN _, hoh.out.drewN _⟩
end Go.Proofs.YtfkepclgadeeeaaGreatDoor

/-
  The document's reader: a word.
-/
namespace Go.Proofs.YtfkepclgadeeeaaGreatDoor
open Go.RowKit

/-- the fault behind a word -/
def wordF (s : ByteArray) (p : Nat) : FtR := if (wordP ((byt s).drop p)).2 then okF else stF s (p + (wordP ((byt s).drop p)).1)
theorem wordF_yes {s : ByteArray} {p : Nat} (h : (wordP ((byt s).drop p)).2 = true) : wordF s p = okF := if_pos h
theorem wordF_no {s : ByteArray} {p : Nat} (h : (wordP ((byt s).drop p)).2 = false) : wordF s p = stF s (p + (wordP ((byt s).drop p)).1) := if_neg (by rw [h]; decide)
theorem let_innR (b : UInt8) (h : tLet b = true) : tInn b = true := by unfold tInn; rw [h]; rfl
/-- what stands behind a dot -/
def aftDot (f : Nat) (l : List UInt8) : Nat × Bool := (numN l + (numsR (decide (0 < numN l)) f (l.drop (numN l))).1, (numsR (decide (0 < numN l)) f (l.drop (numN l))).2)
theorem aft_none {f : Nat} {l : List UInt8} (h : numN l = 0) : aftDot f l = (0, false) := by unfold aftDot; rw [h]; rfl
theorem aft_some {f : Nat} {l : List UInt8} (h : 0 < numN l) : aftDot f l = (numN l + (numsGo f (l.drop (numN l))).1, (numsGo f (l.drop (numN l))).2) := by unfold aftDot; rw [decide_eq_true h]; rfl
theorem nums_aft {f : Nat} {l : List UInt8} (h : hdIs 46 l = true) : numsGo (f + 1) l = (1 + (aftDot f (l.drop 1)).1, (aftDot f (l.drop 1)).2) := by
  rw [numsGo_dot f l h]; unfold aftDot; simp only [List.drop_drop]; rw [Nat.add_assoc]
theorem numbers_aft (l : List UInt8) (h0 : 0 < numN l) (h1 : hdIs 46 (l.drop (numN l)) = true) : numbersP l = (numN l + 1 + (aftDot l.length (l.drop (numN l + 1))).1, (aftDot l.length (l.drop (numN l + 1))).2) := by
  rw [numbersP_eq, if_pos h0, if_pos h1]; unfold aftDot; simp only [List.drop_drop]; rw [Nat.add_assoc]
/-- the loop's invariant: behind a dot -/
def DotI (w : World) (R : Nat) (s : ByteArray) (p k n : Nat) (wr : World) : Prop :=
  ∃ i f : Nat, p ≤ i ∧ i ≤ s.size ∧ s.size - i ≤ n ∧ s.size - i ≤ f ∧ RfT wr R s i k okF ∧ Only (fun g => g = R) w wr ∧ p + (wordP ((byt s).drop p)).1 = i + (aftDot f ((byt s).drop i)).1 ∧ (wordP ((byt s).drop p)).2 = (aftDot f ((byt s).drop i)).2
/-- the loop's invariant: within a word of letters -/
def LetI (w : World) (R : Nat) (s : ByteArray) (p k n : Nat) (more : Bool) (wr : World) : Prop :=
  ∃ i : Nat, p ≤ i ∧ i ≤ s.size ∧ s.size - i ≤ n ∧ RfT wr R s i k okF ∧ Only (fun g => g = R) w wr ∧ (more = true → i < s.size) ∧ (more = true → spanN tInn ((byt s).drop i) = spanN tInn ((byt s).drop (i + 1)) + 1) ∧ (more = false → spanN tInn ((byt s).drop i) = 0) ∧ p + (wordP ((byt s).drop p)).1 = i + spanN tInn ((byt s).drop i)

set_option maxRecDepth 100000 in
set_option maxHeartbeats 8000000 in
theorem rword_any (w : World) (R : Nat) (s : ByteArray) (p k : Nat) (hr : RfT w R s p k okF) (hs : s.size ≤ 140737488355328) (hp : p ≤ s.size) :
    Calls Tryz.prog 56 #[.pointer (some ⟨R, 0, none⟩)] w fun e w' => e = .returned (.bool (wordP ((byt s).drop p)).2) ∧ RfT w' R s (p + (wordP ((byt s).drop p)).1) k (wordF s p) ∧ Only (fun g => g = R) w w' := by
  have hu : wordP ((byt s).drop p) = if hdLet ((byt s).drop p) then (spanN tInn ((byt s).drop p), true) else numbersP ((byt s).drop p) := rfl
  obtain ⟨c0, c1, c2, c3, c4, c5, fz⟩ := hr.cells
  have hrh : Hid (RfT w R s p k okF) := hr
  clear c2 c3 c4 c5 hr
  by_cases hlt : p < s.size
  · have hlti : decide (s.size ≤ p) = false := by simp; omega
    have hlti2 : (p : Int) < (s.size : Int) := by omega
    rw [hdLet_in s p hlt] at hu
    have hL := fun w => rLet_any s[p] w
    cases hl : tLet s[p]
    · rw [hl] at hu hL
      have hv : wordP ((byt s).drop p) = numbersP ((byt s).drop p) := hu
      clear hu hl
      have hE := numbersP_eq ((byt s).drop p)
      have hA := numbers_aft ((byt s).drop p)
      have hlen : ((byt s).drop p).length = s.size - p := by rw [List.length_drop, byt_length]
      simp only [List.drop_drop] at hE hA
      rw [hlen] at hA
      rw [← hv] at hE hA
      clear hlen hv
      have hle := numN_drop_le s p hp
      have hN := fun w1 (r1 : RfT w1 R s p k okF) => rnumber_any w1 R s p k r1 hs hp
      have hEh : Hid (wordP ((byt s).drop p) = _) := hE
      clear hE
      go_enter Tryz.func56, Tryz.ntmps56
      go_wp2_with fail
      go_quiet (fail)
      have r1 := hrh.out.drewN nq
      have o1 := (Only.refl (fun g => g = R) w).drewN nq
      clear c0 c1 fz hrh
      generalize w.drewN nq = w1 at r1 o1 ⊢
      have hrh : Hid (RfT w1 R s p k okF) := r1
      obtain ⟨c0, c1, c2, c3, c4, c5, fz⟩ := r1.cells
      clear r1 c2 c3 c4 c5
      go_wp2_with fail
      go_quiet (first | (go_at_call 72; exact Calls.quiet_of_same (hL _)))
      have r2 := hrh.out.drewN nq
      have o2 := o1.drewN nq
      clear c0 c1 fz hrh o1
      generalize w1.drewN nq = w2 at r2 o2 ⊢
      go_wp2_with fail
      go_at_call 73
      refine (hN _ r2).mono ?_
      clear hN hL
      by_cases h0 : 0 < numN ((byt s).drop p)
      · rw [decide_eq_true h0, numF_yes h0]
        have hE1 := hEh.out
        rw [if_pos h0] at hE1
        have hA1 := hA h0
        clear hA hEh
        generalize numN ((byt s).drop p) = n at *
        rintro _ w3 ⟨rfl, r3, o3⟩
        have hT := takes_any w3 R s (p + n) k 46 r3 hs (by omega)
        cases hd : hdIs 46 ((byt s).drop (p + n))
        · rw [hd] at hE1 hT
          have hv : Hid (wordP ((byt s).drop p) = (n, false)) := hE1
          clear hE1 hA1 hd
          go_wp2_with fail
          go_at_call 21
          refine hT.mono ?_
          rintro _ w4 ⟨rfl, r4, o4⟩
          go_wp2_with fail
          refine wp_loop_rounds 1 ?_
          rw [rounds_succ]
          go_wp2
          go_ret
          rw [wordF_no (by rw [hv.out]), hv.out]
          exact ⟨rfl, r4, (o2.then o3).then o4⟩
        · rw [hd] at hT
          have hv : Hid (wordP ((byt s).drop p) = _) := hA1 hd
          have hlt2 := hdIs_lt hd
          clear hE1 hA1 hd
          go_wp2_with fail
          go_at_call 21
          refine hT.mono ?_
          rintro _ w4 ⟨rfl, r4, o4⟩
          go_wp2_with fail
          clear hT r3
          go_loopg [6] s.size (fun n v wr => v = .bool true ∧ Hid (DotI w R s p k n wr))
          case atStart =>
            refine ⟨rfl, p + n + 1, s.size - p, by omega, by omega, by omega, by omega, r4, (o2.then o3).then o4, ?_, ?_⟩
            · rw [hv.out, show p + (n + 1) = p + n + 1 by omega]; omega
            · rw [hv.out, show p + (n + 1) = p + n + 1 by omega]
          case round =>
            obtain ⟨rfl, hI⟩ := hrel
            clear hv r4 o2 o3 o4
            obtain ⟨i, f, hpi, his, hn, hf, hri, hoi, e1, e2⟩ := hI.out
            have he1 : Hid (p + (wordP ((byt s).drop p)).1 = i + (aftDot f ((byt s).drop i)).1) := e1
            have he2 : Hid ((wordP ((byt s).drop p)).2 = (aftDot f ((byt s).drop i)).2) := e2
            clear e1 e2 hI
            have hN := rnumber_any wr R s i k hri hs his
            have hle2 := numN_drop_le s i his
            by_cases hm : 0 < numN ((byt s).drop i)
            · rw [decide_eq_true hm, numF_yes hm] at hN
              have ha : Hid (aftDot f ((byt s).drop i) = _) := aft_some hm
              have q1 := he1.out
              have q2 := he2.out
              rw [ha.out] at q1 q2
              simp only [List.drop_drop] at q1 q2
              clear ha he1 he2
              generalize numN ((byt s).drop i) = m at *
              have q1h : Hid (p + (wordP ((byt s).drop p)).1 = i + (m + (numsGo f ((byt s).drop (i + m))).1)) := q1
              have q2h : Hid ((wordP ((byt s).drop p)).2 = (numsGo f ((byt s).drop (i + m))).2) := q2
              clear q1 q2
              go_wp2_with fail
              go_at_call 73
              refine hN.mono ?_
              rintro _ w5 ⟨rfl, r5, o5⟩
              have hT := next_any w5 R s (i + m) k okF 46 r5
              cases hd : hdIs 46 ((byt s).drop (i + m))
              · rw [hd] at hT
                have hst : Hid (numsGo f ((byt s).drop (i + m)) = (0, true)) := numsGo_stop f _ hd
                clear hd
                go_wp2_with fail
                go_at_call 17
                refine hT.mono ?_
                rintro _ _ ⟨rfl, mm, rfl⟩
                go_wp2
                go_ret
                have q1 : p + (wordP ((byt s).drop p)).1 = i + m := by rw [q1h.out, hst.out]; rfl
                have q2 : (wordP ((byt s).drop p)).2 = true := by rw [q2h.out, hst.out]
                rw [wordF_yes q2, q1, q2]
                exact ⟨rfl, r5.drewN _, (hoi.then o5).drewN _⟩
              · rw [hd] at hT
                have hlt3 := hdIs_lt hd
                obtain ⟨f', rfl⟩ : ∃ f', f = f' + 1 := ⟨f - 1, by omega⟩
                have hst : Hid (numsGo (f' + 1) ((byt s).drop (i + m)) = _) := nums_aft hd
                obtain ⟨mm, rfl⟩ : ∃ mm, gk = mm + 1 := ⟨gk - 1, by omega⟩
                obtain ⟨c0, c1, c2, c3, c4, c5, fz⟩ := r5.cells
                clear hd c0 c2 c3 c4 c5
                obtain ⟨j, hj⟩ : ∃ j, Hid (j = i + m + 1) := ⟨_, rfl⟩
                obtain ⟨i2, hi2⟩ : ∃ i2, Hid (i2 = i + m) := ⟨_, rfl⟩
                have hji : (i2 : Int) + 1 = (j : Int) := by have := hj.out; have := hi2.out; omega
                rw [← hi2.out] at c1
                have hsz : i2 < s.size := by have := hi2.out; omega
                go_wp2_with fail
                go_at_call 17
                refine hT.mono ?_
                rintro _ _ ⟨rfl, m2, rfl⟩
                go_wp2
                go_roundg mm
                case measure => omega
                case rel =>
                  have hj2 := hj.out
                  have q := hst.out
                  simp only [List.drop_drop] at q
                  refine ⟨rfl, j, f', by omega, by omega, by omega, by omega, (r5.drewN m2).set1 j, ((hoi.then o5).drewN m2).then (setOnly _ R 1 _), ?_, ?_⟩
                  · rw [q1h.out, q, hj2]; omega
                  · rw [q2h.out, q, hj2]
            · have hm0 : numN ((byt s).drop i) = 0 := by omega
              rw [decide_eq_false hm, numF_no hm0, hm0] at hN
              have ha : Hid (aftDot f ((byt s).drop i) = _) := aft_none hm0
              clear hm hm0
              go_wp2_with fail
              go_at_call 73
              refine hN.mono ?_
              rintro _ w5 ⟨rfl, r5, o5⟩
              go_wp2
              go_ret
              have q1 : p + (wordP ((byt s).drop p)).1 = i := by rw [he1.out, ha.out]; rfl
              have q2 : (wordP ((byt s).drop p)).2 = false := by rw [he2.out, ha.out]
              rw [wordF_no q2, q1, q2]
              exact ⟨rfl, r5, hoi.then o5⟩
      · have h00 : numN ((byt s).drop p) = 0 := by omega
        have hE1 := hEh.out
        rw [if_neg h0] at hE1
        rw [decide_eq_false h0, numF_no h00, h00]
        have hv : Hid (wordP ((byt s).drop p) = (0, false)) := hE1
        clear hA hEh hE1 h0 h00
        rintro _ w3 ⟨rfl, r3, o3⟩
        go_wp2
        go_ret
        rw [wordF_no (by rw [hv.out]), hv.out]
        exact ⟨rfl, r3, o2.then o3⟩
    · rw [hl] at hu hL
      have hv : Hid (wordP ((byt s).drop p) = (spanN tInn ((byt s).drop p), true)) := hu
      have hsp0 : Hid (spanN tInn ((byt s).drop p) = spanN tInn ((byt s).drop (p + 1)) + 1) := by show _ = _; rw [spanN_in tInn s p hlt, let_innR _ hl, if_pos rfl]
      have hf := fun b w => rInn_any b w
      clear hu hl
      go_enter Tryz.func56, Tryz.ntmps56
      go_wp2_with fail
      go_quiet (fail)
      have r1 := hrh.out.drewN nq
      have o1 := (Only.refl (fun g => g = R) w).drewN nq
      clear c0 c1 fz hrh
      generalize w.drewN nq = w1 at r1 o1 ⊢
      have hrh : Hid (RfT w1 R s p k okF) := r1
      obtain ⟨c0, c1, c2, c3, c4, c5, fz⟩ := r1.cells
      clear r1 c2 c3 c4 c5
      go_wp2_with fail
      go_quiet (first | (go_at_call 72; exact Calls.quiet_of_same (hL _)))
      have r2 := hrh.out.drewN nq
      have o2 := o1.drewN nq
      clear c0 c1 fz hrh o1 hL
      generalize w1.drewN nq = w2 at r2 o2 ⊢
      go_wp2_with fail
      go_loopg [4] s.size (fun n v wr => ∃ more, v = .bool more ∧ Hid (LetI w R s p k n more wr))
      case atStart => exact ⟨true, rfl, p, by omega, by omega, by omega, r2, o2, fun _ => hlt, fun _ => hsp0.out, (fun h => by cases h), by rw [hv.out]⟩
      case round =>
        obtain ⟨more, rfl, hI⟩ := hrel
        clear r2 o2 hsp0
        obtain ⟨i, hpi, his, hn, hri, hoi, a1, a2, a3, a4⟩ := hI.out
        have ha4 : Hid (p + (wordP ((byt s).drop p)).1 = i + spanN tInn ((byt s).drop i)) := a4
        clear a4 hI
        have hw2 : Hid ((wordP ((byt s).drop p)).2 = true) := by show _ = _; rw [hv.out]
        clear hv
        cases more
        · have ha3 : Hid (spanN tInn ((byt s).drop i) = 0) := a3 rfl
          clear a1 a2 a3
          go_wp2
          go_ret
          rw [wordF_yes hw2.out, hw2.out, ha4.out, ha3.out]
          exact ⟨rfl, hri, hoi⟩
        · have hlt2 := a1 rfl
          have ha2 : Hid (spanN tInn ((byt s).drop i) = spanN tInn ((byt s).drop (i + 1)) + 1) := a2 rfl
          clear a1 a2 a3
          obtain ⟨m, rfl⟩ : ∃ m, gk = m + 1 := ⟨gk - 1, by omega⟩
          obtain ⟨j, hj⟩ : ∃ j, Hid (j = i + 1) := ⟨_, rfl⟩
          have hji : (i : Int) + 1 = (j : Int) := by have := hj.out; omega
          have hjs : j ≤ s.size := by have := hj.out; omega
          have hjp : p ≤ j := by have := hj.out; omega
          have hjn : s.size - j ≤ m := by have := hj.out; omega
          obtain ⟨c0, c1, c2, c3, c4, c5, fz⟩ := hri.cells
          have r3 := hri.set1 j
          have o3 := hoi.then (setOnly wr R 1 (.int .i64 j))
          have ha5 : Hid (p + (wordP ((byt s).drop p)).1 = j + spanN tInn ((byt s).drop j)) := by show _ = _; rw [ha4.out, ha2.out, hj.out]; omega
          clear c0 c2 c3 c4 c5 ha4 ha2
          go_wp2_with fail
          generalize wr.setCell ⟨R, 1, none⟩ (.int .i64 (j : Int)) = w3 at r3 o3 ⊢
          clear c1 fz hri hoi hji
          have hrh : Hid (RfT w3 R s j k okF) := r3
          have hoh : Hid (Only (fun g => g = R) w w3) := o3
          obtain ⟨c0, c1, c2, c3, c4, c5, fz⟩ := r3.cells
          clear r3 o3 c2 c3 c4 c5
          by_cases hlt3 : j < s.size
          · have hlti3 : (j : Int) < (s.size : Int) := by omega
            have hfi := fun w => hf s[j] w
            have hsj : Hid (spanN tInn ((byt s).drop j) = if tInn s[j] then spanN tInn ((byt s).drop (j + 1)) + 1 else 0) := spanN_in tInn s j hlt3
            generalize tInn s[j] = q at *
            go_quiet (first | (go_at_call 57; exact Calls.quiet_of_same (hfi _)))
            go_wp2
            go_roundg m
            case measure => omega
            case rel =>
              refine ⟨q, rfl, j, by omega, by omega, by omega, hrh.out.drewN _, hoh.out.drewN _, fun _ => hlt3, fun h => ?_, fun h => ?_, ha5.out⟩
              · rw [hsj.out, h, if_pos rfl]
              · rw [hsj.out, h]; rfl
          · have hlti3 : decide (j < s.size) = false := by simp; omega
            go_quiet (fail)
            go_wp2
            go_roundg m
            case measure => omega
            case rel => exact ⟨false, rfl, j, by omega, by omega, by omega, hrh.out.drewN _, hoh.out.drewN _, (fun h => by cases h), (fun h => by cases h), fun _ => spanN_out tInn s j hlt3, ha5.out⟩
  · have hlti : (s.size : Int) ≤ (p : Int) := by omega
    have hv : Hid (wordP ((byt s).drop p) = (0, false)) := by show _ = _; rw [drop_end s p hlt]; rfl
    clear hu
    go_enter Tryz.func56, Tryz.ntmps56
    go_wp2_with fail
    go_quiet (fail)
    go_wp2_with fail
    go_at_call 11
    refine (stuck_any _ R s p k (hrh.out.drewN _) hs hp).mono ?_
    rintro _ w1 ⟨rfl, r1, o1⟩
    go_wp2
    go_ret
    rw [wordF_no (by rw [hv.out]), hv.out]
    exact ⟨rfl, r1, ((Only.refl _ w).drewN _).then o1⟩
end Go.Proofs.YtfkepclgadeeeaaGreatDoor

/-
  The document's reader: a description; rosterref10.Desc.
-/
namespace Go.Proofs.YtfkepclgadeeeaaGreatDoor
open Go.RowKit

/-- the loop's invariant -/
def OptsF (w : World) (R : Nat) (s : ByteArray) (p k : Nat) (n : Nat) (ok : Bool) (wr : World) : Prop :=
  ∃ i f : Nat, p ≤ i ∧ i ≤ s.size ∧ s.size - i ≤ n ∧ s.size - i ≤ f ∧ RfT wr R s i k (if ok then okF else stF s i) ∧ Only (fun g => g = R) w wr ∧ p + (descP ((byt s).drop p)).1 = i + (optsR ok f ((byt s).drop i)).1 ∧ (descP ((byt s).drop p)).2 = (optsR ok f ((byt s).drop i)).2
/-- the fault behind a description -/
def descF (s : ByteArray) (p : Nat) (D : Nat × Bool) : FtR := if D.2 then (if D.1 ≤ 65536 then okF else flF s 3 p) else stF s (p + D.1)
/-- may it be? -/
def descG (D : Nat × Bool) : Bool := D.2 && decide (D.1 ≤ 65536)
def descS (s : ByteArray) (p : Nat) (D : Nat × Bool) : ByteArray := if descG D then s.extract p (p + D.1) else ⟨#[]⟩
def RDescPost (w : World) (R : Nat) (s : ByteArray) (p k : Nat) (e : Ending) (w' : World) : Prop :=
  RfT w' R s (p + (descP ((byt s).drop p)).1) k (descF s p (descP ((byt s).drop p))) ∧ Only (fun g => g = R) w w' ∧ e = .returned (.tuple #[.string (descS s p (descP ((byt s).drop p))), .bool (descG (descP ((byt s).drop p)))])

set_option maxRecDepth 100000 in
set_option maxHeartbeats 8000000 in
theorem rdesc_any (w : World) (R : Nat) (s : ByteArray) (p k : Nat) (hr : RfT w R s p k okF) (hs : s.size ≤ 140737488355328) (hp : p ≤ s.size) :
    Calls Tryz.prog 32 #[.pointer (some ⟨R, 0, none⟩)] w (RDescPost w R s p k) := by
  have hW := rword_any w R s p k hr hs hp
  have hE := descP_eq ((byt s).drop p)
  simp only [List.drop_drop] at hE
  have hlen : ((byt s).drop p).length = s.size - p := by rw [List.length_drop, byt_length]
  have hwl := wordP_le ((byt s).drop p)
  have hdl := descP_le ((byt s).drop p)
  rw [hlen] at hE hwl hdl
  clear hlen
  have hwf : wordF s p = if (wordP ((byt s).drop p)).2 then okF else stF s (p + (wordP ((byt s).drop p)).1) := rfl
  rw [hwf] at hW
  clear hwf
  generalize wordP ((byt s).drop p) = N at *
  obtain ⟨n, ok⟩ := N
  simp only at hE hW hwl
  have hEh : Hid (descP ((byt s).drop p) = _) := hE
  have hf := fun b w => rInn_any b w
  clear hE
  obtain ⟨c0, c1, c2, c3, c4, c5, fz⟩ := hr.cells
  clear c0 c2 c3 c4 c5 fz hr
  go_enter Tryz.func32, Tryz.ntmps32
  go_wp2_with fail
  clear c1
  go_at_call 56
  refine hW.mono ?_
  rintro _ w1 ⟨rfl, r1, o1⟩
  go_wp2_with fail
  clear hW
  go_loopg [5] s.size (fun n v wr => ∃ ok, v = .bool ok ∧ Hid (OptsF w R s p k n ok wr))
  case atStart => exact ⟨ok, rfl, p + n, s.size - p, by omega, by omega, by omega, by omega, r1, o1, by rw [hEh.out]; omega, by rw [hEh.out]⟩
  case round =>
    obtain ⟨ok, rfl, hI⟩ := hrel
    clear hEh r1 o1
    obtain ⟨i, f, hpi, his, hn, hf2, hri, hoi, e1, e2⟩ := hI.out
    have he1 : Hid (p + (descP ((byt s).drop p)).1 = i + (optsR ok f ((byt s).drop i)).1) := e1
    have he2 : Hid ((descP ((byt s).drop p)).2 = (optsR ok f ((byt s).drop i)).2) := e2
    clear e1 e2 hI
    cases ok
    · have hrih : Hid (RfT wr R s i k (stF s i)) := hri
      clear hri hf
      go_wp2
      go_ret2
      have q1 : p + (descP ((byt s).drop p)).1 = i := he1.out
      have q2 : (descP ((byt s).drop p)).2 = false := he2.out
      unfold RDescPost descF descS descG
      rw [q1, q2]
      exact ⟨hrih.out, hoi, rfl⟩
    · have hri2 : RfT wr R s i k okF := hri
      clear hri
      have hT := next_any wr R s i k okF 59 hri2
      cases hd : hdIs 59 ((byt s).drop i)
      · rw [hd] at hT
        have hst : Hid (optsR true f ((byt s).drop i) = (0, true)) := optsGo_stop f _ hd
        have q1 : p + (descP ((byt s).drop p)).1 = i := by rw [he1.out, hst.out]; rfl
        have q2 : Hid ((descP ((byt s).drop p)).2 = true) := by show _ = _; rw [he2.out, hst.out]
        have q3 : Hid ((descP ((byt s).drop p)).1 = i - p) := by show _ = _; omega
        obtain ⟨c0, c1, c2, c3, c4, c5, fz⟩ := hri2.cells
        obtain ⟨d, hdh⟩ : ∃ d, Hid (d = i - p) := ⟨_, rfl⟩
        have hdi : (i : Int) - (p : Int) = (d : Int) := by have := hdh.out; omega
        clear hd q1 hf c2 c3 c4 c5 fz
        by_cases h65 : i - p ≤ 65536
        · have hli : ¬ (65536 : Int) < (d : Int) := by have := hdh.out; omega
          have h65h : Hid (i - p ≤ 65536) := h65
          have hii : (i : Int) ≤ (s.size : Int) := by omega
          have hpp : (p : Int) ≤ (i : Int) := by omega
          clear h65
          go_wp2_with fail
          go_at_call 17
          refine hT.mono ?_
          rintro _ _ ⟨rfl, mm, rfl⟩
          have r2 := hri2.drewN mm
          have o2 := hoi.drewN mm
          clear hT c0 c1
          generalize wr.drewN mm = w2 at r2 o2 ⊢
          obtain ⟨c0, c1, c2, c3, c4, c5, fz⟩ := r2.cells
          clear c2 c3 c4 c5 fz
          go_wp2_with fail
          go_quiet (fail)
          go_wp2
          go_ret2
          unfold RDescPost descF descS descG
          rw [q2.out, q3.out, if_pos rfl, if_pos h65h.out, decide_eq_true h65h.out, show p + (i - p) = i by omega]
          exact ⟨r2.drewN _, o2.drewN _, rfl⟩
        · have hli : (65536 : Int) < (d : Int) := by have := hdh.out; omega
          have h65h : Hid (¬ i - p ≤ 65536) := h65
          clear h65
          go_wp2_with fail
          go_at_call 17
          refine hT.mono ?_
          rintro _ _ ⟨rfl, mm, rfl⟩
          have r2 := hri2.drewN mm
          have o2 := hoi.drewN mm
          clear hT c0 c1
          generalize wr.drewN mm = w2 at r2 o2 ⊢
          obtain ⟨c0, c1, c2, c3, c4, c5, fz⟩ := r2.cells
          clear c2 c3 c4 c5 fz
          go_wp2_with fail
          go_at_call 18
          refine (fails_any _ R s i k 3 p r2 hs hp).mono ?_
          rintro _ w3 ⟨rfl, r3, o3⟩
          go_wp2
          go_ret2
          unfold RDescPost descF descS descG
          rw [q2.out, q3.out, if_pos rfl, if_neg h65h.out, decide_eq_false h65h.out, show p + (i - p) = i by omega]
          exact ⟨r3, o2.then o3, rfl⟩
      · rw [hd] at hT
        have hlt2 := hdIs_lt hd
        obtain ⟨f', rfl⟩ : ∃ f', f = f' + 1 := ⟨f - 1, by omega⟩
        have hst : Hid (optsR true (f' + 1) ((byt s).drop i) = _) := optsGo_some f' _ hd
        obtain ⟨mm, rfl⟩ : ∃ mm, gk = mm + 1 := ⟨gk - 1, by omega⟩
        have q := hst.out
        simp only [List.drop_drop] at q
        obtain ⟨j, hj⟩ : ∃ j, Hid (j = i + 1) := ⟨_, rfl⟩
        rw [← hj.out, show i + (1 + spanN tInn ((byt s).drop j)) = j + spanN tInn ((byt s).drop j) by have := hj.out; omega] at q
        have hle3 := spanN_drop_le tInn s j (by have := hj.out; omega)
        have q1 : Hid (p + (descP ((byt s).drop p)).1 = j + spanN tInn ((byt s).drop j) + (optsR (decide (0 < spanN tInn ((byt s).drop j))) f' ((byt s).drop (j + spanN tInn ((byt s).drop j)))).1) := by show _ = _; rw [he1.out, q]; have := hj.out; simp only; omega
        have q2 : Hid ((descP ((byt s).drop p)).2 = (optsR (decide (0 < spanN tInn ((byt s).drop j))) f' ((byt s).drop (j + spanN tInn ((byt s).drop j)))).2) := by show _ = _; rw [he2.out, q]
        clear hd q hst he1 he2
        have hji : (i : Int) + 1 = (j : Int) := by have := hj.out; omega
        have hjs : j ≤ s.size := by have := hj.out; omega
        have hjp : p ≤ j := by have := hj.out; omega
        have hjn : s.size - j ≤ mm := by have := hj.out; omega
        have hjf : s.size - j ≤ f' := by have := hj.out; omega
        obtain ⟨c0, c1, c2, c3, c4, c5, fz⟩ := hri2.cells
        clear c0 c2 c3 c4 c5 hj
        go_wp2_with fail
        go_at_call 17
        refine hT.mono ?_
        rintro _ _ ⟨rfl, m2, rfl⟩
        have r3 := (hri2.drewN m2).set1 j
        have o3 := (hoi.drewN m2).then (setOnly (wr.drewN m2) R 1 (.int .i64 j))
        go_wp2_with fail
        clear hT
        go_loopg [] s.size (fun n w4 => ∃ i2 : Nat, j ≤ i2 ∧ i2 ≤ s.size ∧ s.size - i2 ≤ n ∧ RfT w4 R s i2 k okF ∧ Only (fun g => g = R) w w4 ∧ Hid (j + spanN tInn ((byt s).drop j) = i2 + spanN tInn ((byt s).drop i2)))
        case atStart => exact ⟨j, Nat.le_refl _, hjs, by omega, r3, o3, rfl⟩
        case round =>
          obtain ⟨i2, hji2, his2, hn2, hr4, ho4, hsp⟩ := hrel
          clear r3 o3 hri2 hoi c1 fz
          have hrh : Hid (RfT wr R s i2 k okF) := hr4
          have hoh : Hid (Only (fun g => g = R) w wr) := ho4
          obtain ⟨c0, c1, c2, c3, c4, c5, fz⟩ := hr4.cells
          clear hr4 ho4 c2 c3 c4 c5
          by_cases hlt3 : i2 < s.size
          · have hlti3 : (i2 : Int) < (s.size : Int) := by omega
            have hfi := fun w => hf s[i2] w
            have hsj : Hid (spanN tInn ((byt s).drop i2) = if tInn s[i2] then spanN tInn ((byt s).drop (i2 + 1)) + 1 else 0) := spanN_in tInn s i2 hlt3
            cases hq : tInn s[i2]
            · rw [hq] at hfi hsj
              have he : Hid (j + spanN tInn ((byt s).drop j) = i2) := by show _ = _; rw [hsp.out, hsj.out]; rfl
              clear hq hsj hsp hf
              by_cases hz : i2 = j
              · have hzb : ((i2 : Int) == (j : Int)) = true := by simp; omega
                have hzh : Hid (i2 = j) := hz
                have hs0 : Hid (spanN tInn ((byt s).drop j) = 0) := by have := he.out; show _ = _; omega
                clear hz
                go_wp2_with fail
                go_quiet (first | (go_at_call 57; exact Calls.quiet_of_same (hfi _)))
                go_wp2_with fail
                go_at_call 11
                refine (stuck_any _ R s i2 k (hrh.out.drewN _) hs his2).mono ?_
                rintro _ w5 ⟨rfl, r5, o5⟩
                go_wp2
                go_roundg mm
                case measure => omega
                case rel =>
                  have z1 := q1.out
                  have z2 := q2.out
                  rw [hs0.out] at z1 z2
                  rw [hzh.out] at r5
                  exact ⟨false, rfl, j, f', by omega, by omega, by omega, by omega, r5, (hoh.out.drewN _).then o5, z1, z2⟩
              · have hzb : ((i2 : Int) == (j : Int)) = false := by simp; omega
                have hs0 : Hid (0 < spanN tInn ((byt s).drop j)) := by have := he.out; show _ < _; omega
                clear hz
                go_wp2_with fail
                go_quiet (first | (go_at_call 57; exact Calls.quiet_of_same (hfi _)))
                go_wp2
                go_roundg mm
                case measure => omega
                case rel =>
                  have z1 := q1.out
                  have z2 := q2.out
                  rw [decide_eq_true hs0.out, he.out] at z1 z2
                  exact ⟨true, rfl, i2, f', by omega, by omega, by omega, by omega, hrh.out.drewN _, hoh.out.drewN _, z1, z2⟩
            · rw [hq] at hfi hsj
              have he : Hid (j + spanN tInn ((byt s).drop j) = i2 + 1 + spanN tInn ((byt s).drop (i2 + 1))) := by show _ = _; rw [hsp.out, hsj.out, if_pos rfl]; omega
              obtain ⟨m3, rfl⟩ : ∃ m3, gk = m3 + 1 := ⟨gk - 1, by omega⟩
              obtain ⟨i3, hi3⟩ : ∃ i3, Hid (i3 = i2 + 1) := ⟨_, rfl⟩
              have hi3i : (i2 : Int) + 1 = (i3 : Int) := by have := hi3.out; omega
              clear hq hsj hsp hf
              go_wp2_with fail
              go_quiet (first | (go_at_call 57; exact Calls.quiet_of_same (hfi _)))
              go_wp2
              go_roundg m3
              case measure => omega
              case rel =>
                have h3 := hi3.out
                exact ⟨i3, by omega, by omega, by omega, (hrh.out.drewN _).set1 i3, (hoh.out.drewN _).then (setOnly _ R 1 _), by rw [h3]; exact he⟩
          · have hlti3 : decide (i2 < s.size) = false := by simp; omega
            have he : Hid (j + spanN tInn ((byt s).drop j) = i2) := by show _ = _; rw [hsp.out, spanN_out tInn s i2 hlt3]; rfl
            clear hsp hf
            by_cases hz : i2 = j
            · have hzb : ((i2 : Int) == (j : Int)) = true := by simp; omega
              have hzh : Hid (i2 = j) := hz
              have hs0 : Hid (spanN tInn ((byt s).drop j) = 0) := by have := he.out; show _ = _; omega
              clear hz
              go_wp2_with fail
              go_quiet (fail)
              go_wp2_with fail
              go_at_call 11
              refine (stuck_any _ R s i2 k (hrh.out.drewN _) hs his2).mono ?_
              rintro _ w5 ⟨rfl, r5, o5⟩
              go_wp2
              go_roundg mm
              case measure => omega
              case rel =>
                have z1 := q1.out
                have z2 := q2.out
                rw [hs0.out] at z1 z2
                rw [hzh.out] at r5
                exact ⟨false, rfl, j, f', by omega, by omega, by omega, by omega, r5, (hoh.out.drewN _).then o5, z1, z2⟩
            · have hzb : ((i2 : Int) == (j : Int)) = false := by simp; omega
              have hs0 : Hid (0 < spanN tInn ((byt s).drop j)) := by have := he.out; show _ < _; omega
              clear hz
              go_wp2_with fail
              go_quiet (fail)
              go_wp2
              go_roundg mm
              case measure => omega
              case rel =>
                have z1 := q1.out
                have z2 := q2.out
                rw [decide_eq_true hs0.out, he.out] at z1 z2
                exact ⟨true, rfl, i2, f', by omega, by omega, by omega, by omega, hrh.out.drewN _, hoh.out.drewN _, z1, z2⟩

end Go.Proofs.YtfkepclgadeeeaaGreatDoor
