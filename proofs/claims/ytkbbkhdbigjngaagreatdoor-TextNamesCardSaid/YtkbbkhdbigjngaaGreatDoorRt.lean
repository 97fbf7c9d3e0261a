/-
  The document's reader of filters' texts (rosterref10): letters, digits, faults, the byte that comes next, a number.
-/
import Derived.Test.YtkbbkhdbigjngaaGreatDoorTw
namespace Go.Proofs.YtkbbkhdbigjngaaGreatDoor
open Go.RowKit

set_option maxHeartbeats 400000 in
theorem rLet_any (b : UInt8) (w : World) : Calls Tryz.prog 34 #[.int .u8 b.toNat] w fun e w' => e = .returned (.bool (tLet b)) ∧ w' = w := by
  have hb := b.toNat_lt
  have hu : tLet b = ((decide (97 ≤ b.toNat) && decide (b.toNat ≤ 122)) || (decide (65 ≤ b.toNat) && decide (b.toNat ≤ 90))) := rfl
  rw [hu]; clear hu
  generalize b.toNat = c at *
  rcases (show c < 65 ∨ (65 ≤ c ∧ c ≤ 90) ∨ (91 ≤ c ∧ c < 97) ∨ (97 ≤ c ∧ c ≤ 122) ∨ 123 ≤ c by omega) with h | ⟨h1, h2⟩ | ⟨h1, h2⟩ | ⟨h1, h2⟩ | h
  all_goals
    go_enter Tryz.func34, Tryz.ntmps34
    go_wp2
    go_ret
    refine ⟨ret_b ?_, rfl⟩
    first | rfl | (rw [Bool.eq_iff_iff]; simp; omega) | (rw [Bool.eq_iff_iff]; simp; done)
set_option maxHeartbeats 400000 in
theorem rDig_any (b : UInt8) (w : World) : Calls Tryz.prog 37 #[.int .u8 b.toNat] w fun e w' => e = .returned (.bool (tDig b)) ∧ w' = w := by
  have hb := b.toNat_lt
  have hu : tDig b = (decide (48 ≤ b.toNat) && decide (b.toNat ≤ 57)) := rfl
  rw [hu]; clear hu
  generalize b.toNat = c at *
  rcases (show c < 48 ∨ (48 ≤ c ∧ c ≤ 57) ∨ 58 ≤ c by omega) with h | ⟨h1, h2⟩ | h
  all_goals
    go_enter Tryz.func37, Tryz.ntmps37
    go_wp2
    go_ret
    refine ⟨ret_b ?_, rfl⟩
    first | rfl | (rw [Bool.eq_iff_iff]; simp; omega) | (rw [Bool.eq_iff_iff]; simp; done)
set_option maxHeartbeats 400000 in
theorem rInn_any (b : UInt8) (w : World) : Calls Tryz.prog 21 #[.int .u8 b.toNat] w fun e w' => e = .returned (.bool (tInn b)) ∧ w' = w := by
  have h1 := rLet_any b
  have h2 := rDig_any b
  have hu : tInn b = (tLet b || tDig b || ((b.toNat : Int) == 45)) := by
    unfold tInn; rw [← beq_int b 45]; rfl
  rw [hu]; clear hu
  generalize tLet b = x at *
  generalize tDig b = y at *
  cases x <;> cases y
  all_goals
    go_enter Tryz.func21, Tryz.ntmps21
    go_wp2_with (first | (go_at_call 34; refine (h1 _).mono ?_; rintro _ _ ⟨rfl, rfl⟩) | (go_at_call 37; refine (h2 _).mono ?_; rintro _ _ ⟨rfl, rfl⟩))
    go_ret
    refine ⟨ret_b ?_, rfl⟩
    simp

/-- a fault: code, place, word -/
structure FT where
  c : Nat
  a : Nat
  wd : ByteArray
def okF : FT := ⟨0, 0, ⟨#[]⟩⟩
/-- a fault of that code at that place -/
def flF (s : ByteArray) (c q : Nat) : FT := ⟨c, q, if q < s.size then s.extract q (q + 1) else ⟨#[]⟩⟩
/-- what cannot stand at that place -/
def stF (s : ByteArray) (q : Nat) : FT := flF s (stuckC s q) q
/-- the document's reader in memory -/
def RfT (w : World) (R : Nat) (s : ByteArray) (p k : Nat) (f : FT) : Prop :=
  w.heap[R]? = some (.cells #[.string s, .int .i64 p, .int .i64 k, .int .i64 f.c, .int .i64 f.a, .string f.wd] 35 (0, 0))
theorem RfT.cells {w : World} {R : Nat} {s : ByteArray} {p k : Nat} {f : FT} (h : RfT w R s p k f) :
    w.cell? ⟨R, 0, none⟩ = some (.string s) ∧ w.cell? ⟨R, 1, none⟩ = some (.int .i64 p) ∧ w.cell? ⟨R, 2, none⟩ = some (.int .i64 k) ∧ w.cell? ⟨R, 3, none⟩ = some (.int .i64 f.c) ∧ w.cell? ⟨R, 4, none⟩ = some (.int .i64 f.a) ∧ w.cell? ⟨R, 5, none⟩ = some (.string f.wd) ∧ (∀ j, w.frozen? ⟨R, j, none⟩ = false) :=
  ⟨cell_of_row _ _ 0 _ _ _ h, cell_of_row _ _ 1 _ _ _ h, cell_of_row _ _ 2 _ _ _ h, cell_of_row _ _ 3 _ _ _ h, cell_of_row _ _ 4 _ _ _ h, cell_of_row _ _ 5 _ _ _ h, fun j => by simp [World.frozen?, show w.heap[R]? = _ from h]⟩
section
variable {w : World} {R : Nat} {s : ByteArray} {p k : Nat} {f : FT}
theorem RfT.set1 (h : RfT w R s p k f) (q : Nat) : RfT (w.setCell ⟨R, 1, none⟩ (.int .i64 q)) R s q k f := heap_setCell_at w R 1 _ _ _ _ h
theorem RfT.set3 (h : RfT w R s p k f) (q : Nat) : RfT (w.setCell ⟨R, 3, none⟩ (.int .i64 q)) R s p k ⟨q, f.a, f.wd⟩ := heap_setCell_at w R 3 _ _ _ _ h
theorem RfT.set4 (h : RfT w R s p k f) (q : Nat) : RfT (w.setCell ⟨R, 4, none⟩ (.int .i64 q)) R s p k ⟨f.c, q, f.wd⟩ := heap_setCell_at w R 4 _ _ _ _ h
theorem RfT.set5 (h : RfT w R s p k f) (q : ByteArray) : RfT (w.setCell ⟨R, 5, none⟩ (.string q)) R s p k ⟨f.c, f.a, q⟩ := heap_setCell_at w R 5 _ _ _ _ h
theorem RfT.drewN (h : RfT w R s p k f) (n : Nat) : RfT (w.drewN n) R s p k f := h
theorem RfT.ext {w' : World} (h : RfT w R s p k f) (x : Ext w w') : RfT w' R s p k f := (x.block R (Array.getElem?_eq_some_iff.1 h).1).trans h
end

set_option maxHeartbeats 1000000 in
theorem fails_any (w : World) (R : Nat) (s : ByteArray) (p k c q : Nat) (hr : RfT w R s p k okF) (hs : s.size ≤ 140737488355328) (hq : q ≤ s.size) :
    Calls Tryz.prog 23 #[.pointer (some ⟨R, 0, none⟩), .int .i64 c, .int .i64 q] w fun e w' => e = .returned (.bool false) ∧ RfT w' R s p k (flF s c q) ∧ Only (fun g => g = R) w w' := by
  obtain ⟨c0, c1, c2, c3, c4, c5, fz⟩ := hr.cells
  have hrh : Hid (RfT w R s p k okF) := hr
  simp only [okF] at c3 c4 c5
  clear hr c1 c2
  by_cases hlt : q < s.size
  · have hlti : (q : Int) < (s.size : Int) := by omega
    have hv : Hid (flF s c q = ⟨c, q, s.extract q (q + 1)⟩) := by show _ = _; unfold flF; rw [if_pos hlt]
    go_enter Tryz.func23, Tryz.ntmps23
    go_wp2
    go_ret
    refine ⟨rfl, ?_, (((setOnly w R 3 _).then (setOnly _ R 4 _)).then (setOnly _ R 5 _)).then (setOnly _ R 5 _)⟩
    rw [hv.out]
    exact (((hrh.out.set3 c).set4 q).set5 ⟨#[]⟩).set5 _
  · have hlti : decide (q < s.size) = false := by simp; omega
    have hlti2 : ¬ (q : Int) < (s.size : Int) := by omega
    have hv : Hid (flF s c q = ⟨c, q, ⟨#[]⟩⟩) := by show _ = _; unfold flF; rw [if_neg hlt]
    go_enter Tryz.func23, Tryz.ntmps23
    go_wp2
    go_ret
    refine ⟨rfl, ?_, ((setOnly w R 3 _).then (setOnly _ R 4 _)).then (setOnly _ R 5 _)⟩
    rw [hv.out]
    exact ((hrh.out.set3 c).set4 q).set5 ⟨#[]⟩

set_option maxHeartbeats 1000000 in
theorem stuck_any (w : World) (R : Nat) (s : ByteArray) (p k : Nat) (hr : RfT w R s p k okF) (hs : s.size ≤ 140737488355328) (hp : p ≤ s.size) :
    Calls Tryz.prog 22 #[.pointer (some ⟨R, 0, none⟩)] w fun e w' => e = .returned (.bool false) ∧ RfT w' R s p k (stF s p) ∧ Only (fun g => g = R) w w' := by
  obtain ⟨c0, c1, c2, c3, c4, c5, fz⟩ := hr.cells
  have hrh : Hid (RfT w R s p k okF) := hr
  clear hr c2 c3 c4 c5 fz
  by_cases h : p = s.size
  · have hi : (s.size : Int) ≤ (p : Int) := by omega
    have hv : Hid (stF s p = flF s 5 p) := by show _ = _; unfold stF stuckC; rw [if_pos h]
    clear h
    go_enter Tryz.func22, Tryz.ntmps22
    go_wp2_with fail
    go_quiet (fail)
    go_wp2_with fail
    go_at_call 23
    refine (fails_any _ R s p k 5 p (hrh.out.drewN _) hs hp).mono ?_
    rintro _ w1 ⟨rfl, r1, o1⟩
    go_wp2
    go_ret
    rw [hv.out]
    exact ⟨rfl, r1, ((Only.refl _ w).drewN _).then o1⟩
  · have hi : decide (s.size ≤ p) = false := by simp; omega
    have hv : Hid (stF s p = flF s 50 p) := by show _ = _; unfold stF stuckC; rw [if_neg h]
    clear h
    go_enter Tryz.func22, Tryz.ntmps22
    go_wp2_with fail
    go_quiet (fail)
    go_wp2_with fail
    go_at_call 23
    refine (fails_any _ R s p k 50 p (hrh.out.drewN _) hs hp).mono ?_
    rintro _ w1 ⟨rfl, r1, o1⟩
    go_wp2
    go_ret
    rw [hv.out]
    exact ⟨rfl, r1, ((Only.refl _ w).drewN _).then o1⟩

set_option maxRecDepth 100000 in
set_option maxHeartbeats 2000000 in
theorem next_any (w : World) (R : Nat) (s : ByteArray) (p k : Nat) (f : FT) (b : UInt8) (hr : RfT w R s p k f) :
    Calls Tryz.prog 20 #[.pointer (some ⟨R, 0, none⟩), .int .u8 b.toNat] w fun e w' => e = .returned (.bool (hdIs b ((byt s).drop p))) ∧ ∃ m, w' = w.drewN m := by
  obtain ⟨c0, c1, c2, c3, c4, c5, fz⟩ := hr.cells
  clear hr c2 c3 c4 c5 fz
  by_cases hlt : p < s.size
  · have hlti : (p : Int) < (s.size : Int) := by omega
    have hv : Hid (hdIs b ((byt s).drop p) = ((s[p].toNat : Int) == (b.toNat : Int))) := by show _ = _; rw [hdIs_in s p hlt, beq_int]
    go_enter Tryz.func20, Tryz.ntmps20
    go_wp2_with fail
    go_quiet (fail)
    go_wp2
    go_ret
    exact ⟨ret_b hv.out.symm, _, rfl⟩
  · have hlti : decide (p < s.size) = false := by simp; omega
    have hv : Hid (hdIs b ((byt s).drop p) = false) := hdIs_out s p hlt b
    go_enter Tryz.func20, Tryz.ntmps20
    go_wp2_with fail
    go_quiet (fail)
    go_wp2
    go_ret
    exact ⟨ret_b hv.out.symm, _, rfl⟩

set_option maxHeartbeats 1000000 in
theorem takes_any (w : World) (R : Nat) (s : ByteArray) (p k : Nat) (b : UInt8) (hr : RfT w R s p k okF) (hs : s.size ≤ 140737488355328) (hp : p ≤ s.size) :
    Calls Tryz.prog 36 #[.pointer (some ⟨R, 0, none⟩), .int .u8 b.toNat] w fun e w' => e = .returned (.bool (hdIs b ((byt s).drop p))) ∧ RfT w' R s (if hdIs b ((byt s).drop p) then p + 1 else p) k (if hdIs b ((byt s).drop p) then okF else stF s p) ∧ Only (fun g => g = R) w w' := by
  have hn := next_any w R s p k okF b hr
  have hp2 : hdIs b ((byt s).drop p) = true → p < s.size := fun h => hdIs_lt h
  generalize hdIs b ((byt s).drop p) = q at *
  cases q
  · have hrh : Hid (RfT w R s p k okF) := hr
    clear hr hp2
    go_enter Tryz.func36, Tryz.ntmps36
    go_wp2_with fail
    go_at_call 20
    refine hn.mono ?_
    rintro _ _ ⟨rfl, m, rfl⟩
    go_wp2_with fail
    go_at_call 22
    refine (stuck_any _ R s p k (hrh.out.drewN m) hs hp).mono ?_
    rintro _ w1 ⟨rfl, r1, o1⟩
    go_wp2
    go_ret
    exact ⟨rfl, r1, ((Only.refl _ w).drewN m).then o1⟩
  · have hlt := hp2 rfl
    have hrh : Hid (RfT w R s p k okF) := hr
    obtain ⟨c0, c1, c2, c3, c4, c5, fz⟩ := hr.cells
    clear hr hp2 c0 c2 c3 c4 c5
    obtain ⟨q, hq⟩ : ∃ q, Hid (q = p + 1) := ⟨_, rfl⟩
    have hqi : (p : Int) + 1 = (q : Int) := by have := hq.out; omega
    go_enter Tryz.func36, Tryz.ntmps36
    go_wp2_with fail
    go_at_call 20
    refine hn.mono ?_
    rintro _ _ ⟨rfl, m, rfl⟩
    go_wp2
    go_ret
    refine ⟨rfl, ?_, ((Only.refl _ w).drewN m).then (setOnly _ R 1 _)⟩
    rw [← hq.out]
    exact (hrh.out.drewN m).set1 q
end Go.Proofs.YtkbbkhdbigjngaaGreatDoor
