/-
  The document's reader of names' texts: its leaves.
-/
import Derived.Test.YtfiijlmpfpmgiaaGreatDoorNrdToNtk
import Derived.Test.YtfiijlmpfpmgiaaGreatDoorNmnToOrd
import Derived.Deep.QuietTactic
import Derived.BigQuiet
namespace Go.Proofs.YtfiijlmpfpmgiaaGreatDoor
open Go.RowKit

set_option maxHeartbeats 400000 in
theorem digit_d (b : UInt8) (w : World) :
    Calls Tryz.prog 24 #[.int .u8 b.toNat] w fun e w' => e = .returned (.bool (isDig b)) ∧ w' = w := by
  have hb := b.toNat_lt
  rcases (show b.toNat < 48 ∨ (48 ≤ b.toNat ∧ b.toNat ≤ 57) ∨ 58 ≤ b.toNat by omega) with h | ⟨h1, h2⟩ | h
  · have hv : Hid (isDig b = false) := by simp [Hid, isDig]; omega
    go_enter Tryz.func24, Tryz.ntmps24
    go_wp2
    go_ret
    exact ⟨ret_b (by first | exact hv.out.symm | (rw [hv.out]; simp; omega)), rfl⟩
  · have hv : Hid (isDig b = true) := by simp [Hid, isDig]; omega
    go_enter Tryz.func24, Tryz.ntmps24
    go_wp2
    go_ret
    exact ⟨ret_b (by first | exact hv.out.symm | (rw [hv.out]; simp; omega)), rfl⟩
  · have hv : Hid (isDig b = false) := by simp [Hid, isDig]; omega
    go_enter Tryz.func24, Tryz.ntmps24
    go_wp2
    go_ret
    exact ⟨ret_b (by first | exact hv.out.symm | (rw [hv.out]; simp; omega)), rfl⟩
set_option maxHeartbeats 1000000 in
theorem letter_d (b : UInt8) (w : World) :
    Calls Tryz.prog 22 #[.int .u8 b.toNat] w fun e w' => e = .returned (.bool (isLet b)) ∧ w' = w := by
  have hb := b.toNat_lt
  rcases (show b.toNat < 65 ∨ (65 ≤ b.toNat ∧ b.toNat ≤ 90) ∨ (91 ≤ b.toNat ∧ b.toNat < 97) ∨ (97 ≤ b.toNat ∧ b.toNat ≤ 122) ∨ 123 ≤ b.toNat by omega) with h | ⟨h1, h2⟩ | ⟨h1, h2⟩ | ⟨h1, h2⟩ | h
  · have hv : Hid (isLet b = false) := by simp [Hid, isLet]; omega
    go_enter Tryz.func22, Tryz.ntmps22
    go_wp2
    go_ret
    exact ⟨ret_b (by first | exact hv.out.symm | (rw [hv.out]; simp; omega)), rfl⟩
  · have hv : Hid (isLet b = true) := by simp [Hid, isLet]; omega
    go_enter Tryz.func22, Tryz.ntmps22
    go_wp2
    go_ret
    exact ⟨ret_b (by first | exact hv.out.symm | (rw [hv.out]; simp; omega)), rfl⟩
  · have hv : Hid (isLet b = false) := by simp [Hid, isLet]; omega
    go_enter Tryz.func22, Tryz.ntmps22
    go_wp2
    go_ret
    exact ⟨ret_b (by first | exact hv.out.symm | (rw [hv.out]; simp; omega)), rfl⟩
  · have hv : Hid (isLet b = true) := by simp [Hid, isLet]; omega
    go_enter Tryz.func22, Tryz.ntmps22
    go_wp2
    go_ret
    exact ⟨ret_b (by first | exact hv.out.symm | (rw [hv.out]; simp; omega)), rfl⟩
  · have hv : Hid (isLet b = false) := by simp [Hid, isLet]; omega
    go_enter Tryz.func22, Tryz.ntmps22
    go_wp2
    go_ret
    exact ⟨ret_b (by first | exact hv.out.symm | (rw [hv.out]; simp; omega)), rfl⟩


/-- may it stand behind a \\ -/
def signB (b : UInt8) : Bool := decide (0 ≤ Lib.indexByte signsL b)
theorem all256D {p : UInt8 → Prop} (h : ∀ n, n < 256 → p (UInt8.ofNat n)) (b : UInt8) : p b := by
  have := h b.toNat b.toNat_lt
  rwa [UInt8.ofNat_toNat] at this
theorem signB_is (b : UInt8) : signB b = (b == 34 || b == 43 || b == 44 || b == 59 || b == 60 || b == 62 || b == 61 || b == 35 || b == 32 || b == 92) := all256D (p := fun b => signB b = (b == 34 || b == 43 || b == 44 || b == 59 || b == 60 || b == 62 || b == 61 || b == 35 || b == 32 || b == 92)) (by decide +kernel) b
theorem u8eq (b c : UInt8) : ((b.toNat : Int) == (c.toNat : Int)) = (b == c) := by
  cases h : b == c with
  | true => obtain rfl := eq_of_beq h; simp
  | false =>
    have : b ≠ c := by intro e; subst e; simp at h
    simp only [beq_eq_false_iff_ne, ne_eq]
    intro e; exact this (UInt8.toNat_inj.1 (by omega))
set_option maxRecDepth 100000 in
set_option maxHeartbeats 2000000 in
theorem sign_d (b : UInt8) (w : World) :
    Calls Tryz.prog 28 #[.int .u8 b.toNat] w fun e w' => e = .returned (.bool (signB b)) ∧ w' = w := by
  have e1 : ((b.toNat : Int) == 34) = (b == 34) := u8eq b 34
  have e2 : ((b.toNat : Int) == 43) = (b == 43) := u8eq b 43
  have e3 : ((b.toNat : Int) == 44) = (b == 44) := u8eq b 44
  have e4 : ((b.toNat : Int) == 59) = (b == 59) := u8eq b 59
  have e5 : ((b.toNat : Int) == 60) = (b == 60) := u8eq b 60
  have e6 : ((b.toNat : Int) == 62) = (b == 62) := u8eq b 62
  have e7 : ((b.toNat : Int) == 61) = (b == 61) := u8eq b 61
  have e8 : ((b.toNat : Int) == 35) = (b == 35) := u8eq b 35
  have e9 : ((b.toNat : Int) == 32) = (b == 32) := u8eq b 32
  have e10 : ((b.toNat : Int) == 92) = (b == 92) := u8eq b 92
  have hv : Hid (signB b = (b == 34 || b == 43 || b == 44 || b == 59 || b == 60 || b == 62 || b == 61 || b == 35 || b == 32 || b == 92)) := signB_is b
  generalize (b == 34) = c1 at *
  generalize (b == 43) = c2 at *
  generalize (b == 44) = c3 at *
  generalize (b == 59) = c4 at *
  generalize (b == 60) = c5 at *
  generalize (b == 62) = c6 at *
  generalize (b == 61) = c7 at *
  generalize (b == 35) = c8 at *
  generalize (b == 32) = c9 at *
  generalize (b == 92) = c10 at *
  cases c1 with
  | true => go_enter Tryz.func28, Tryz.ntmps28; go_wp2; go_ret; exact ⟨ret_b (by rw [hv.out]; rfl), rfl⟩
  | false =>
  cases c2 with
  | true => go_enter Tryz.func28, Tryz.ntmps28; go_wp2; go_ret; exact ⟨ret_b (by rw [hv.out]; rfl), rfl⟩
  | false =>
  cases c3 with
  | true => go_enter Tryz.func28, Tryz.ntmps28; go_wp2; go_ret; exact ⟨ret_b (by rw [hv.out]; rfl), rfl⟩
  | false =>
  cases c4 with
  | true => go_enter Tryz.func28, Tryz.ntmps28; go_wp2; go_ret; exact ⟨ret_b (by rw [hv.out]; rfl), rfl⟩
  | false =>
  cases c5 with
  | true => go_enter Tryz.func28, Tryz.ntmps28; go_wp2; go_ret; exact ⟨ret_b (by rw [hv.out]; rfl), rfl⟩
  | false =>
  cases c6 with
  | true => go_enter Tryz.func28, Tryz.ntmps28; go_wp2; go_ret; exact ⟨ret_b (by rw [hv.out]; rfl), rfl⟩
  | false =>
  cases c7 with
  | true => go_enter Tryz.func28, Tryz.ntmps28; go_wp2; go_ret; exact ⟨ret_b (by rw [hv.out]; rfl), rfl⟩
  | false =>
  cases c8 with
  | true => go_enter Tryz.func28, Tryz.ntmps28; go_wp2; go_ret; exact ⟨ret_b (by rw [hv.out]; rfl), rfl⟩
  | false =>
  cases c9 with
  | true => go_enter Tryz.func28, Tryz.ntmps28; go_wp2; go_ret; exact ⟨ret_b (by rw [hv.out]; rfl), rfl⟩
  | false =>
  cases c10 with
  | true => go_enter Tryz.func28, Tryz.ntmps28; go_wp2; go_ret; exact ⟨ret_b (by rw [hv.out]; rfl), rfl⟩
  | false => go_enter Tryz.func28, Tryz.ntmps28; go_wp2; go_ret; exact ⟨ret_b (by rw [hv.out]; rfl), rfl⟩
/-- a digit to the base 16, or -1 -/
def hexI (b : UInt8) : Int := match adig b.toNat with | some k => (k : Int) | none => -1
set_option maxRecDepth 100000 in
set_option maxHeartbeats 2000000 in
theorem hex_d (b : UInt8) (w : World) :
    Calls Tryz.prog 27 #[.int .u8 b.toNat] w fun e w' => e = .returned (.int .i64 (hexI b)) ∧ w' = w := by
  have hb := b.toNat_lt
  rcases (show b.toNat < 48 ∨ (48 ≤ b.toNat ∧ b.toNat ≤ 57) ∨ (58 ≤ b.toNat ∧ b.toNat < 65) ∨ (65 ≤ b.toNat ∧ b.toNat ≤ 70) ∨ (71 ≤ b.toNat ∧ b.toNat < 97) ∨ (97 ≤ b.toNat ∧ b.toNat ≤ 102) ∨ 103 ≤ b.toNat by omega) with h | ⟨h1, h2⟩ | ⟨h1, h2⟩ | ⟨h1, h2⟩ | ⟨h1, h2⟩ | ⟨h1, h2⟩ | h
  · have hv : Hid (hexI b = -1) := by
      have e : adig b.toNat = none := by unfold adig sdig; rw [if_neg (by omega), if_neg (by omega), if_neg (by omega)]
      show hexI b = _; unfold hexI; rw [e]
    go_enter Tryz.func27, Tryz.ntmps27
    go_wp2
    go_ret
    exact ⟨ret_i hv.out.symm, rfl⟩
  · have hv : Hid (hexI b = (b.toNat : Int) - 48) := by
      have e : adig b.toNat = some (b.toNat - 48) := by unfold adig sdig; rw [if_neg (by omega), if_pos (by omega)]
      show hexI b = _; unfold hexI; rw [e]; show ((b.toNat - 48 : Nat) : Int) = _; omega
    have hw : IntKind.u8.wrap ((b.toNat : Int) - 48) = (b.toNat : Int) - 48 := by rw [IntKind.wrap_u8]; omega
    have hw2 : ((b.toNat : Int) - 48) % 256 = (b.toNat : Int) - 48 := by omega
    go_enter Tryz.func27, Tryz.ntmps27
    go_wp2
    go_ret
    exact ⟨ret_i (by rw [hv.out]; try omega), rfl⟩
  · have hv : Hid (hexI b = -1) := by
      have e : adig b.toNat = none := by unfold adig sdig; rw [if_neg (by omega), if_neg (by omega), if_neg (by omega)]
      show hexI b = _; unfold hexI; rw [e]
    go_enter Tryz.func27, Tryz.ntmps27
    go_wp2
    go_ret
    exact ⟨ret_i hv.out.symm, rfl⟩
  · have hv : Hid (hexI b = (b.toNat : Int) - 55) := by
      have e : adig b.toNat = some (b.toNat - 55) := by unfold adig sdig; rw [if_pos (by omega)]
      show hexI b = _; unfold hexI; rw [e]; show ((b.toNat - 55 : Nat) : Int) = _; omega
    have hw : IntKind.u8.wrap ((b.toNat : Int) - 65) = (b.toNat : Int) - 65 := by rw [IntKind.wrap_u8]; omega
    have hw2 : ((b.toNat : Int) - 65) % 256 = (b.toNat : Int) - 65 := by omega
    go_enter Tryz.func27, Tryz.ntmps27
    go_wp2
    go_ret
    exact ⟨ret_i (by rw [hv.out]; try omega), rfl⟩
  · have hv : Hid (hexI b = -1) := by
      have e : adig b.toNat = none := by unfold adig sdig; rw [if_neg (by omega), if_neg (by omega), if_neg (by omega)]
      show hexI b = _; unfold hexI; rw [e]
    go_enter Tryz.func27, Tryz.ntmps27
    go_wp2
    go_ret
    exact ⟨ret_i hv.out.symm, rfl⟩
  · have hv : Hid (hexI b = (b.toNat : Int) - 87) := by
      have e : adig b.toNat = some (b.toNat - 87) := by unfold adig sdig; rw [if_neg (by omega), if_neg (by omega), if_pos (by omega)]
      show hexI b = _; unfold hexI; rw [e]; show ((b.toNat - 87 : Nat) : Int) = _; omega
    have hw : IntKind.u8.wrap ((b.toNat : Int) - 97) = (b.toNat : Int) - 97 := by rw [IntKind.wrap_u8]; omega
    have hw2 : ((b.toNat : Int) - 97) % 256 = (b.toNat : Int) - 97 := by omega
    go_enter Tryz.func27, Tryz.ntmps27
    go_wp2
    go_ret
    exact ⟨ret_i (by rw [hv.out]; try omega), rfl⟩
  · have hv : Hid (hexI b = -1) := by
      have e : adig b.toNat = none := by unfold adig sdig; rw [if_neg (by omega), if_neg (by omega), if_neg (by omega)]
      show hexI b = _; unfold hexI; rw [e]
    go_enter Tryz.func27, Tryz.ntmps27
    go_wp2
    go_ret
    exact ⟨ret_i hv.out.symm, rfl⟩
/-- the document's reader in memory -/
def RdD (w : World) (R : Nat) (s : ByteArray) (at' : Nat) (c fa : Int) (fw : ByteArray) : Prop := w.heap[R]? = some (.cells #[.string s, .int .i64 (at' : Int), .int .i64 c, .int .i64 fa, .string fw] 42 (0, 0))
theorem RdD.cells {w : World} {R : Nat} {s : ByteArray} {p : Nat} {c fa : Int} {fw : ByteArray} (h : RdD w R s p c fa fw) : w.cell? ⟨R, 0, none⟩ = some (.string s) ∧ w.cell? ⟨R, 1, none⟩ = some (.int .i64 (p : Int)) ∧ w.cell? ⟨R, 2, none⟩ = some (.int .i64 c) ∧ w.cell? ⟨R, 3, none⟩ = some (.int .i64 fa) ∧ w.cell? ⟨R, 4, none⟩ = some (.string fw) ∧ ∀ j, w.frozen? ⟨R, j, none⟩ = false := by
  have hh : w.heap[R]? = some (.cells #[.string s, .int .i64 (p : Int), .int .i64 c, .int .i64 fa, .string fw] 42 (0, 0)) := h
  refine ⟨cell_of_row _ _ 0 _ _ _ h, cell_of_row _ _ 1 _ _ _ h, cell_of_row _ _ 2 _ _ _ h, cell_of_row _ _ 3 _ _ _ h, cell_of_row _ _ 4 _ _ _ h, fun j => by simp [World.frozen?, hh]⟩
/-- the byte at a place, 0 behind the end -/
def bD (s : ByteArray) (k : Nat) : UInt8 := if h : k < s.size then s[k] else 0
set_option maxRecDepth 100000 in
set_option maxHeartbeats 2000000 in
theorem byteAt_d (w : World) (R : Nat) (s : ByteArray) (p : Nat) (c fa : Int) (fw : ByteArray) (h : RdD w R s p c fa fw) (i : Nat) :
    Calls Tryz.prog 23 #[.pointer (some ⟨R, 0, none⟩), .int .i64 (i : Int)] w fun e w' => e = .returned (.int .u8 ((bD s i).toNat : Int)) ∧ w' = w := by
  obtain ⟨c0, c1, c2, c3, c4, fz⟩ := h.cells
  clear h
  by_cases hlt : i < s.size
  · have hb : Hid (bD s i = s[i]) := dif_pos hlt
    have h1 : ¬ (s.size : Int) ≤ (i : Int) := by omega
    go_enter Tryz.func23, Tryz.ntmps23
    go_wp2
    go_ret
    exact ⟨by rw [hb.out]; rfl, rfl⟩
  · have hb : Hid (bD s i = 0) := dif_neg hlt
    have h1 : (s.size : Int) ≤ (i : Int) := by omega
    go_enter Tryz.func23, Tryz.ntmps23
    go_wp2
    go_ret
    exact ⟨by rw [hb.out]; rfl, rfl⟩
end Go.Proofs.YtfiijlmpfpmgiaaGreatDoor

/-
  The document's reader of names' texts: its faults.
-/
namespace Go.Proofs.YtfiijlmpfpmgiaaGreatDoor
open Go.RowKit

/-- the word of a fault -/
def fwD (s : ByteArray) (k : Nat) : ByteArray := if k < s.size then s.extract k (k + 1) else ⟨#[]⟩
theorem RdD.put1 {w : World} {R : Nat} {s : ByteArray} {p : Nat} {c fa : Int} {fw : ByteArray} (h : RdD w R s p c fa fw) (q : Nat) : RdD (w.setCell ⟨R, 1, none⟩ (.int .i64 (q : Int))) R s q c fa fw := heap_setCell_at w R 1 (.int .i64 (q : Int)) _ _ _ h
theorem RdD.put2 {w : World} {R : Nat} {s : ByteArray} {p : Nat} {c fa : Int} {fw : ByteArray} (h : RdD w R s p c fa fw) (c' : Int) : RdD (w.setCell ⟨R, 2, none⟩ (.int .i64 c')) R s p c' fa fw := heap_setCell_at w R 2 (.int .i64 c') _ _ _ h
theorem RdD.put3 {w : World} {R : Nat} {s : ByteArray} {p : Nat} {c fa : Int} {fw : ByteArray} (h : RdD w R s p c fa fw) (c' : Int) : RdD (w.setCell ⟨R, 3, none⟩ (.int .i64 c')) R s p c c' fw := heap_setCell_at w R 3 (.int .i64 c') _ _ _ h
theorem RdD.put4 {w : World} {R : Nat} {s : ByteArray} {p : Nat} {c fa : Int} {fw : ByteArray} (h : RdD w R s p c fa fw) (v : ByteArray) : RdD (w.setCell ⟨R, 4, none⟩ (.string v)) R s p c fa v := heap_setCell_at w R 4 (.string v) _ _ _ h
theorem only3 (w : World) (R : Nat) (a b c : Value) : Only (fun k => k = R) w (((w.setCell ⟨R, 2, none⟩ a).setCell ⟨R, 3, none⟩ b).setCell ⟨R, 4, none⟩ c) := (((Only.refl _ w).setCell (S := fun k => k = R) (p := ⟨R, 2, none⟩) (Or.inl rfl) a).setCell (p := ⟨R, 3, none⟩) (Or.inl rfl) b).setCell (p := ⟨R, 4, none⟩) (Or.inl rfl) c
set_option maxRecDepth 100000 in
set_option maxHeartbeats 2000000 in
theorem fault_d (w : World) (R : Nat) (s : ByteArray) (p : Nat) (fa : Int) (fw : ByteArray) (h : RdD w R s p 0 fa fw) (code : Int) (k : Nat) (hs : s.size ≤ 65536) :
    Calls Tryz.prog 12 #[.pointer (some ⟨R, 0, none⟩), .int .i64 code, .int .i64 (k : Int)] w fun e w' => e = .returned (.tuple #[]) ∧ RdD w' R s p code (k : Int) (fwD s k) ∧ Only (fun b => b = R) w w' := by
  obtain ⟨c0, c1, c2, c3, c4, fz⟩ := h.cells
  by_cases hlt : k < s.size
  · have h1 : (k : Int) < (s.size : Int) := by omega
    have hk0 : (0 : Int) ≤ (k : Int) := by omega
    have hk1 : (k : Int) ≤ (k : Int) + 1 := by omega
    have hk2 : (k : Int) + 1 ≤ (s.size : Int) := by omega
    have hw : Hid (fwD s k = s.extract k (k + 1)) := if_pos hlt
    go_enter Tryz.func12, Tryz.ntmps12
    go_wp2
    go_end0
    refine ⟨rfl, ?_, ?_⟩
    · rw [hw.out]
      exact (((h.put2 code).put3 (k : Int)).put4 ⟨#[]⟩).put4 (s.extract k (k + 1))
    · exact (only3 w R _ _ _).setCell (p := ⟨R, 4, none⟩) (Or.inl rfl) _
  · have h1 : ¬ (k : Int) < (s.size : Int) := by omega
    have hw : Hid (fwD s k = ⟨#[]⟩) := if_neg hlt
    go_enter Tryz.func12, Tryz.ntmps12
    go_wp2
    go_end0
    refine ⟨rfl, ?_, ?_⟩
    · rw [hw.out]
      exact ((h.put2 code).put3 (k : Int)).put4 ⟨#[]⟩
    · exact only3 w R _ _ _
theorem only_drewN {S : Nat → Prop} {w w' : World} {q : Nat} (h : Only S (w.drewN q) w') : Only S w w' := ⟨h.os, h.tape, h.output, h.size, h.block⟩
/-- the code of a place where nothing that may stand comes next -/
def stC (s : ByteArray) (p : Nat) : Int := if p < s.size then 50 else 5
set_option maxRecDepth 100000 in
set_option maxHeartbeats 2000000 in
theorem stuck_d (w : World) (R : Nat) (s : ByteArray) (p : Nat) (fa : Int) (fw : ByteArray) (h : RdD w R s p 0 fa fw) (hs : s.size ≤ 65536) :
    Calls Tryz.prog 25 #[.pointer (some ⟨R, 0, none⟩)] w fun e w' => e = .returned (.tuple #[]) ∧ RdD w' R s p (stC s p) (p : Int) (fwD s p) ∧ Only (fun b => b = R) w w' := by
  obtain ⟨c0, c1, c2, c3, c4, fz⟩ := h.cells
  by_cases hlt : p < s.size
  · have h1 : (p : Int) < (s.size : Int) := by omega
    have hc : stC s p = 50 := if_pos hlt
    rw [hc]
    have hf := fun q => fault_d (w.drewN q) R s p fa fw h 50 p hs
    clear h hc
    go_enter Tryz.func25, Tryz.ntmps25
    go_wp2_with fail
    go_quiet (fail)
    go_wp2_with (go_at_call 12; refine (hf _).mono ?_; rintro _ w1 ⟨rfl, h2, h3⟩)
    go_end0
    exact ⟨rfl, h2, only_drewN h3⟩
  · have h1 : ¬ (p : Int) < (s.size : Int) := by omega
    have hc : stC s p = 5 := if_neg hlt
    rw [hc]
    have hf := fun q => fault_d (w.drewN q) R s p fa fw h 5 p hs
    clear h hc
    go_enter Tryz.func25, Tryz.ntmps25
    go_wp2_with fail
    go_quiet (fail)
    go_wp2_with (go_at_call 12; refine (hf _).mono ?_; rintro _ w1 ⟨rfl, h2, h3⟩)
    go_end0
    exact ⟨rfl, h2, only_drewN h3⟩
end Go.Proofs.YtfiijlmpfpmgiaaGreatDoor

/-
  The document's reader of names' texts: a value's end.
-/
namespace Go.Proofs.YtfiijlmpfpmgiaaGreatDoor
open Go.RowKit

/-- how many \ stand right ahead of k, not ahead of f -/
def bsN (s : ByteArray) (f : Nat) : Nat → Nat
  | 0 => 0
  | k + 1 => if f ≤ k ∧ bD s k = 92 then bsN s f k + 1 else 0
theorem bsN_le (s : ByteArray) (f : Nat) : ∀ k, bsN s f k ≤ k
  | 0 => Nat.le_refl _
  | k + 1 => by
    rw [bsN]
    split
    · have := bsN_le s f k; omega
    · omega
/-- a bare blank is the last byte -/
def endB (s : ByteArray) (f q : Nat) : Bool := decide (f < q) && (bD s (q - 1) == 32) && (bsN s f (q - 1) % 2 == 0)
theorem bD_inE {s : ByteArray} {q : Nat} (h : q < s.size) : bD s q = s[q] := dif_pos h
set_option maxRecDepth 100000 in
set_option maxHeartbeats 4000000 in
theorem ended_d (w : World) (R : Nat) (s : ByteArray) (q f : Nat) (fa : Int) (fw : ByteArray) (h : RdD w R s q 0 fa fw) (hs : s.size ≤ 65536) (hq : q ≤ s.size) (hfq : f ≤ q) (v : Value) (l : List UInt8) (hcv : ∀ W, Only (fun b => b = R) w W → (convert 67 9 v).run Tryz.prog W = .ok (.string (str l)) W) :
    Calls Tryz.prog 26 #[.pointer (some ⟨R, 0, none⟩), v, .int .i64 (f : Int)] w fun e w' => e = .returned (.string (str l)) ∧ Only (fun b => b = R) w w' ∧ (endB s f q = false ∧ RdD w' R s q 0 fa fw ∨ endB s f q = true ∧ RdD w' R s q 50 ((q - 1 : Nat) : Int) (fwD s (q - 1))) := by
  obtain ⟨c0, c1, c2, c3, c4, fz⟩ := h.cells
  have hrh : Hid (RdD w R s q 0 fa fw) := h
  have hcvh : Hid (∀ W, Only (fun b => b = R) w W → (convert 67 9 v).run Tryz.prog W = .ok (.string (str l)) W) := hcv
  clear hcv h
  by_cases hlt : f < q
  · obtain ⟨r, rfl⟩ : ∃ r, q = r + 1 := ⟨q - 1, by omega⟩
    have h1 : (f : Int) < ((r + 1 : Nat) : Int) := by omega
    have e1 : ((r + 1 : Nat) : Int) - 1 = (r : Int) := by omega
    have e2 : ((r + 1 : Nat) : Int) - 2 = (r : Int) - 1 := by omega
    have hr : r < s.size := by omega
    have i1 : (0 : Int) ≤ (r : Int) := by omega
    have i2 : (r : Int) < (s.size : Int) := by omega
    generalize hQ : ((r + 1 : Nat) : Int) = Q at *
    cases h32 : s[r] == 32 with
    | false =>
      have e32 : ((s[r].toNat : Int) == 32) = false := (u8eq s[r] 32).trans h32
      have hE : Hid (endB s f (r + 1) = false) := by
        show _ = _
        unfold endB
        rw [show r + 1 - 1 = r by omega, bD_inE hr, h32]; simp
      have hc := fun n => hcvh.out (w.drewN n) ((Only.refl _ w).drewN n)
      clear h32 hcvh
      go_enter Tryz.func26, Tryz.ntmps26
      go_wp2_with fail
      go_quiet (fail)
      go_wp2
      go_ret
      exact ⟨rfl, (Only.refl _ w).drewN _, .inl ⟨hE.out, hrh.out⟩⟩
    | true =>
      have e32 : ((s[r].toNat : Int) == 32) = true := (u8eq s[r] 32).trans h32
      have hF := fun n => fault_d (w.drewN n) R s (r + 1) fa fw hrh.out 50 r hs
      go_enter Tryz.func26, Tryz.ntmps26
      go_wp2_with fail
      go_quiet (fail)
      go_wp2
      go_loopw [7, 8] (fun v7 v8 wx => ∃ (m i : Nat) (kk : Int), v7 = .int .i64 (m : Int) ∧ v8 = .int .i64 kk ∧ kk = (i : Int) - 1 ∧ i ≤ r ∧ m + bsN s f i = bsN s f r ∧ wx = w.drewN nq) (fun _ v8 _ => (intOf v8 + 1).toNat)
      case atStart => exact ⟨0, r, (r : Int) - 1, rfl, rfl, rfl, Nat.le_refl _, by omega, rfl⟩
      case round =>
        obtain ⟨m, i, kk, rfl, rfl, hkk, hir, hmb, rfl⟩ := hrel
        have hml := bsN_le s f r
        cases i with
        | zero =>
          have hk0 : ¬ (f : Int) ≤ kk := by omega
          have hme : Hid (m = bsN s f r) := by
            show m = _
            rw [bsN] at hmb; omega
          clear hmb hkk
          clear hml
          have hM : m % 2 = 0 ∨ m % 2 = 1 := by omega
          rcases hM with hM | hM
          · have t0 : ((m : Int).tmod 2) = 0 := by
              have : ((m : Int).tmod 2) = ((m % 2 : Nat) : Int) := rfl
              rw [this, hM]; rfl
            have hE : Hid (endB s f (r + 1) = true) := by
              show _ = _
              unfold endB
              rw [show r + 1 - 1 = r by omega, bD_inE hr, h32, ← hme.out, hM, decide_eq_true hlt]; rfl
            clear hM
            go_wp2_with (go_at_call 12; refine (hF _).mono ?_; rintro _ w1 ⟨rfl, hr1, ho1⟩; have hc1 := hcvh.out w1 (only_drewN ho1))
            go_ret
            exact ⟨rfl, only_drewN ho1, .inr ⟨hE.out, hr1⟩⟩
          · have t0 : ((m : Int).tmod 2) = 1 := by
              have : ((m : Int).tmod 2) = ((m % 2 : Nat) : Int) := rfl
              rw [this, hM]; rfl
            have hE : Hid (endB s f (r + 1) = false) := by
              show _ = _
              unfold endB
              rw [show r + 1 - 1 = r by omega, ← hme.out, hM]; simp
            have hc1 := hcvh.out (w.drewN nq) ((Only.refl _ w).drewN _)
            clear hM
            go_wp2
            go_ret
            exact ⟨rfl, (Only.refl _ w).drewN _, .inl ⟨hE.out, hrh.out⟩⟩
        | succ j =>
          obtain rfl : kk = (j : Int) := by omega
          clear hkk
          have hjs : j < s.size := by omega
          have j0 : (0 : Int) ≤ (j : Int) := by omega
          have j1 : (j : Int) < (s.size : Int) := by omega
          by_cases hfj : f ≤ j
          · have hk0 : (f : Int) ≤ (j : Int) := by omega
            cases h92 : s[j] == 92 with
            | true =>
              have e92 : ((s[j].toNat : Int) == 92) = true := (u8eq s[j] 92).trans h92
              have hmb' : m + 1 + bsN s f j = bsN s f r := by
                rw [bsN, if_pos ⟨hfj, by rw [bD_inE hjs]; simpa using h92⟩] at hmb; omega
              clear hmb h92
              go_wp2
              go_roundw
              case rel => exact ⟨m + 1, j, (j : Int) - 1, by go_num, by go_num, rfl, by omega, hmb', by first | rfl | trivial⟩
              case measure => simp [intOf]
            | false =>
              have e92 : ((s[j].toNat : Int) == 92) = false := (u8eq s[j] 92).trans h92
              have hme : Hid (m = bsN s f r) := by
                show m = _
                rw [bsN, if_neg (by rintro ⟨_, e⟩; rw [bD_inE hjs] at e; rw [e] at h92; exact absurd h92 (by decide))] at hmb; omega
              clear hmb h92
              clear hml
              have hM : m % 2 = 0 ∨ m % 2 = 1 := by omega
              rcases hM with hM | hM
              · have t0 : ((m : Int).tmod 2) = 0 := by
                  have : ((m : Int).tmod 2) = ((m % 2 : Nat) : Int) := rfl
                  rw [this, hM]; rfl
                have hE : Hid (endB s f (r + 1) = true) := by
                  show _ = _
                  unfold endB
                  rw [show r + 1 - 1 = r by omega, bD_inE hr, h32, ← hme.out, hM, decide_eq_true hlt]; rfl
                clear hM
                go_wp2_with (go_at_call 12; refine (hF _).mono ?_; rintro _ w1 ⟨rfl, hr1, ho1⟩; have hc1 := hcvh.out w1 (only_drewN ho1))
                go_ret
                exact ⟨rfl, only_drewN ho1, .inr ⟨hE.out, hr1⟩⟩
              · have t0 : ((m : Int).tmod 2) = 1 := by
                  have : ((m : Int).tmod 2) = ((m % 2 : Nat) : Int) := rfl
                  rw [this, hM]; rfl
                have hE : Hid (endB s f (r + 1) = false) := by
                  show _ = _
                  unfold endB
                  rw [show r + 1 - 1 = r by omega, ← hme.out, hM]; simp
                have hc1 := hcvh.out (w.drewN nq) ((Only.refl _ w).drewN _)
                clear hM
                go_wp2
                go_ret
                exact ⟨rfl, (Only.refl _ w).drewN _, .inl ⟨hE.out, hrh.out⟩⟩
          · have hk0 : ¬ (f : Int) ≤ (j : Int) := by omega
            have hme : Hid (m = bsN s f r) := by
              show m = _
              rw [bsN, if_neg (fun e => hfj e.1)] at hmb; omega
            clear hmb
            clear hml
            have hM : m % 2 = 0 ∨ m % 2 = 1 := by omega
            rcases hM with hM | hM
            · have t0 : ((m : Int).tmod 2) = 0 := by
                have : ((m : Int).tmod 2) = ((m % 2 : Nat) : Int) := rfl
                rw [this, hM]; rfl
              have hE : Hid (endB s f (r + 1) = true) := by
                show _ = _
                unfold endB
                rw [show r + 1 - 1 = r by omega, bD_inE hr, h32, ← hme.out, hM, decide_eq_true hlt]; rfl
              clear hM
              go_wp2_with (go_at_call 12; refine (hF _).mono ?_; rintro _ w1 ⟨rfl, hr1, ho1⟩; have hc1 := hcvh.out w1 (only_drewN ho1))
              go_ret
              exact ⟨rfl, only_drewN ho1, .inr ⟨hE.out, hr1⟩⟩
            · have t0 : ((m : Int).tmod 2) = 1 := by
                have : ((m : Int).tmod 2) = ((m % 2 : Nat) : Int) := rfl
                rw [this, hM]; rfl
              have hE : Hid (endB s f (r + 1) = false) := by
                show _ = _
                unfold endB
                rw [show r + 1 - 1 = r by omega, ← hme.out, hM]; simp
              have hc1 := hcvh.out (w.drewN nq) ((Only.refl _ w).drewN _)
              clear hM
              go_wp2
              go_ret
              exact ⟨rfl, (Only.refl _ w).drewN _, .inl ⟨hE.out, hrh.out⟩⟩
  · have h1 : ¬ (f : Int) < (q : Int) := by omega
    have hE : Hid (endB s f q = false) := by
      show _ = _
      unfold endB; rw [decide_eq_false hlt]; rfl
    have hc := fun n => hcvh.out (w.drewN n) ((Only.refl _ w).drewN n)
    clear hcvh
    go_enter Tryz.func26, Tryz.ntmps26
    go_wp2_with fail
    go_quiet (fail)
    go_wp2
    go_ret
    exact ⟨rfl, (Only.refl _ w).drewN _, .inl ⟨hE.out, hrh.out⟩⟩
end Go.Proofs.YtfiijlmpfpmgiaaGreatDoor

/-
  The document's reader of names' texts: a type's word that begins with a letter.
-/
namespace Go.Proofs.YtfiijlmpfpmgiaaGreatDoor
open Go.RowKit

/-- the word that begins at p stands at q in this state -/
def wAt (s : ByteArray) (p q st : Nat) (d : Bool) : Prop := p + (wGo 0 false ((byt s).drop p)).1 = q + (wGo st d ((byt s).drop q)).1 ∧ (wGo 0 false ((byt s).drop p)).2 = (wGo st d ((byt s).drop q)).2
theorem wAt_start (s : ByteArray) (p : Nat) : wAt s p p 0 false := ⟨rfl, rfl⟩
theorem wAt_step {s : ByteArray} {p q st st' : Nat} {d d' : Bool} (h : wAt s p q st d) (hq : q < s.size) (hn : wNext st d s[q] = some (st', d')) : wAt s p (q + 1) st' d' := by
  unfold wAt at h ⊢
  rw [drop_one s q hq] at h
  have e : wGo st d (s[q] :: (byt s).drop (q + 1)) = ((wGo st' d' ((byt s).drop (q + 1))).1 + 1, (wGo st' d' ((byt s).drop (q + 1))).2) := by rw [wGo, hn]
  rw [e] at h
  exact ⟨by have := h.1; simp only at this; omega, h.2⟩
theorem wAt_stop {s : ByteArray} {p q st : Nat} {d : Bool} (h : wAt s p q st d) (hn : ∀ hq : q < s.size, wNext st d s[q] = none) : ttN s p = q ∧ (wGo 0 false ((byt s).drop p)).2 = wEnd st d := by
  have e : wGo st d ((byt s).drop q) = (0, wEnd st d) := by
    by_cases hq : q < s.size
    · rw [drop_one s q hq, wGo, hn hq]
    · rw [List.drop_eq_nil_of_le (by rw [byt_length]; omega), wGo]
  unfold wAt at h
  rw [e] at h
  exact ⟨h.1, h.2⟩
/-- what word answers: the word and the =, or a fault -/
def wordQ (s : ByteArray) (R p : Nat) (fa : Int) (fw : ByteArray) (w : World) (e : Ending) (w' : World) : Prop :=
  ((ttP s ⟨p, ⟨#[]⟩, 0, [], []⟩).1 = 0 ∧ e = .returned (.string (s.extract p (ttN s p))) ∧ RdD w' R s (ttN s p + 1) 0 fa fw ∨
   (ttP s ⟨p, ⟨#[]⟩, 0, [], []⟩).1 ≠ 0 ∧ e = .returned (.string ⟨#[]⟩) ∧ RdD w' R s (ttN s p) (ttP s ⟨p, ⟨#[]⟩, 0, [], []⟩).1 (ttN s p : Int) (fwD s (ttN s p))) ∧ Only (fun b => b = R) w w'
theorem bD_in {s : ByteArray} {q : Nat} (h : q < s.size) : bD s q = s[q] := dif_pos h
theorem bD_out {s : ByteArray} {q : Nat} (h : ¬ q < s.size) : bD s q = 0 := dif_neg h
theorem toNat_neD {b : UInt8} (h : b ≠ 61) : (b.toNat : Int) ≠ 61 := by
  intro e; exact h (UInt8.toNat_inj.1 (show b.toNat = 61 by omega))
theorem bAt_bD {s : ByteArray} {q : Nat} (h : q < s.size) : bAt s q = ((bD s q).toNat : Int) := by rw [bD_in h, bAt, dif_pos h]
theorem tt_bad {s : ByteArray} {p q : Nat} (hq : ttN s p = q) (hqs : q ≤ s.size) (h : (wGo 0 false ((byt s).drop p)).2 = false ∨ bD s q ≠ 61) : (ttP s ⟨p, ⟨#[]⟩, 0, [], []⟩).1 = stC s q := by
  unfold ttP stC
  simp only [hq]
  by_cases e : q = s.size
  · rw [if_pos e, if_neg (by omega)]
  · have hlt : q < s.size := by omega
    rw [if_neg e, if_pos hlt, if_pos]
    rcases h with h | h
    · exact .inl h
    · refine .inr ?_
      rw [bAt_bD hlt]
      exact toNat_neD h
theorem stC_ne (s : ByteArray) (q : Nat) : stC s q ≠ 0 := by unfold stC; split <;> decide
theorem tt_good {s : ByteArray} {p q : Nat} (hq : ttN s p = q) (ho : (wGo 0 false ((byt s).drop p)).2 = true) (h : bD s q = 61) : (ttP s ⟨p, ⟨#[]⟩, 0, [], []⟩).1 = 0 ∧ q < s.size := by
  have hlt : q < s.size := by
    apply Classical.byContradiction; intro k
    rw [bD_out k] at h; exact absurd h (by decide)
  refine ⟨?_, hlt⟩
  unfold ttP
  simp only [hq]
  rw [if_neg (by omega), if_neg]
  rw [bAt_bD hlt, h, ho]
  rintro (k | k)
  · cases k
  · exact k rfl
set_option maxRecDepth 100000 in
set_option maxHeartbeats 4000000 in
theorem word_let_d (w : World) (R : Nat) (s : ByteArray) (p : Nat) (fa : Int) (fw : ByteArray) (h : RdD w R s p 0 fa fw) (hs : s.size ≤ 65536) (hl : isLet (bD s p) = true) :
    Calls Tryz.prog 10 #[.pointer (some ⟨R, 0, none⟩)] w (wordQ s R p fa fw w) := by
  obtain ⟨c0, c1, c2, c3, c4, fz⟩ := h.cells
  have hlt : p < s.size := by
    apply Classical.byContradiction; intro q
    rw [bD_out q] at hl; exact absurd hl (by decide)
  have hB0 := fun W (x : RdD W R s p 0 fa fw) => byteAt_d W R s p 0 fa fw x p
  have hL0 := fun W => letter_d (bD s p) W
  rw [hl] at hL0
  have hB1 := hB0 w h
  clear hB0
  go_enter Tryz.func10, Tryz.ntmps10
  go_wp2_with (first
    | (go_at_call 23; refine hB1.mono ?_; rintro _ w1 ⟨rfl, hw⟩; have hw' := hw.symm; clear hw; subst hw')
    | (go_at_call 22; refine (hL0 _).mono ?_; rintro _ w1 ⟨rfl, hw⟩; have hw' := hw.symm; clear hw; subst hw'))
  clear c0 c1 c2 c3 c4 fz hB1 hL0
  have hR0 : Hid (RdD w R s p 0 fa fw) := h
  clear h
  go_loopg [] s.size (fun n wr => ∃ q st, p ≤ q ∧ q ≤ s.size ∧ s.size - q ≤ n ∧ (st = 1 ∨ st = 0 ∧ q = p) ∧ wAt s p q st false ∧ RdD wr R s q 0 fa fw ∧ Only (fun b => b = R) w wr)
  case atStart => exact ⟨p, 0, Nat.le_refl _, by omega, by omega, .inr ⟨rfl, rfl⟩, wAt_start s p, hR0.out, Only.refl _ _⟩
  case round =>
    obtain ⟨q, st, hpq, hqs, hn, hst, hwa, hrd, hon⟩ := hrel
    obtain ⟨c0, c1, c2, c3, c4, fz⟩ := hrd.cells
    have hBq := byteAt_d wr R s q 0 fa fw hrd q
    have hLq := fun W => letter_d (bD s q) W
    have hDq := fun W => digit_d (bD s q) W
    have hHq : (((bD s q).toNat : Int) == 45) = (bD s q == 45) := u8eq (bD s q) 45
    have hfz := fz 1
    by_cases hc : (isLet (bD s q) || isDig (bD s q) || bD s q == 45) = true
    · have hlt2 : q < s.size := by
        apply Classical.byContradiction; intro k
        rw [bD_out k] at hc; exact absurd hc (by decide)
      obtain ⟨m, rfl⟩ : ∃ m, gk = m + 1 := ⟨gk - 1, by omega⟩
      have hNx : Hid (wAt s p (q + 1) 1 false) := by
        refine wAt_step hwa hlt2 ?_
        rw [← bD_in hlt2]
        rcases hst with rfl | ⟨rfl, rfl⟩
        · unfold wNext; rw [if_pos rfl, if_pos hc]
        · unfold wNext; rw [if_neg (by decide), if_neg (by decide), if_neg (by decide), if_pos ⟨rfl, hl⟩]
      have hPu : Hid (RdD (wr.setCell ⟨R, 1, none⟩ (.int .i64 ((q : Int) + 1))) R s (q + 1) 0 fa fw) := hrd.put1 (q + 1)
      have hOn : Hid (Only (fun b => b = R) w (wr.setCell ⟨R, 1, none⟩ (.int .i64 ((q : Int) + 1)))) := hon.then (setOnly wr R 1 _)
      clear hwa hst hrd hon hR0 hl
      have h3 : isLet (bD s q) = true ∨ (isLet (bD s q) = false ∧ isDig (bD s q) = true) ∨ (isLet (bD s q) = false ∧ isDig (bD s q) = false ∧ (bD s q == 45) = true) := by
        revert hc
        cases isLet (bD s q) <;> cases isDig (bD s q) <;> simp
      clear hc
      rcases h3 with hA | ⟨hA, hD⟩ | ⟨hA, hD, hE⟩
      · rw [hA] at hLq
        clear hA hDq hHq
        go_wp2_with (first
          | (go_at_call 23; refine hBq.mono ?_; rintro _ w1 ⟨rfl, hw⟩; have hw' := hw.symm; clear hw; subst hw')
          | (go_at_call 22; refine (hLq _).mono ?_; rintro _ w1 ⟨rfl, hw⟩; have hw' := hw.symm; clear hw; subst hw')
          | (go_at_call 24; refine (hDq _).mono ?_; rintro _ w1 ⟨rfl, hw⟩; have hw' := hw.symm; clear hw; subst hw'))
        go_roundg m
        case measure => omega
        case rel => exact ⟨q + 1, 1, by omega, by omega, by omega, .inl rfl, hNx.out, hPu.out, hOn.out⟩
      · rw [hA] at hLq
        rw [hD] at hDq
        clear hA hD hHq
        go_wp2_with (first
          | (go_at_call 23; refine hBq.mono ?_; rintro _ w1 ⟨rfl, hw⟩; have hw' := hw.symm; clear hw; subst hw')
          | (go_at_call 22; refine (hLq _).mono ?_; rintro _ w1 ⟨rfl, hw⟩; have hw' := hw.symm; clear hw; subst hw')
          | (go_at_call 24; refine (hDq _).mono ?_; rintro _ w1 ⟨rfl, hw⟩; have hw' := hw.symm; clear hw; subst hw'))
        go_roundg m
        case measure => omega
        case rel => exact ⟨q + 1, 1, by omega, by omega, by omega, .inl rfl, hNx.out, hPu.out, hOn.out⟩
      · rw [hA] at hLq
        rw [hD] at hDq
        rw [hE] at hHq
        clear hA hD hE
        go_wp2_with (first
          | (go_at_call 23; refine hBq.mono ?_; rintro _ w1 ⟨rfl, hw⟩; have hw' := hw.symm; clear hw; subst hw')
          | (go_at_call 22; refine (hLq _).mono ?_; rintro _ w1 ⟨rfl, hw⟩; have hw' := hw.symm; clear hw; subst hw')
          | (go_at_call 24; refine (hDq _).mono ?_; rintro _ w1 ⟨rfl, hw⟩; have hw' := hw.symm; clear hw; subst hw'))
        go_roundg m
        case measure => omega
        case rel => exact ⟨q + 1, 1, by omega, by omega, by omega, .inl rfl, hNx.out, hPu.out, hOn.out⟩
    · have h3 : isLet (bD s q) = false ∧ isDig (bD s q) = false ∧ (bD s q == 45) = false := by
        revert hc
        cases isLet (bD s q) <;> cases isDig (bD s q) <;> simp
      have hst1 : st = 1 := by
        rcases hst with h | ⟨_, rfl⟩
        · exact h
        · rw [hl] at h3; exact absurd h3.1 (by decide)
      subst hst1
      obtain ⟨hT, hO⟩ := wAt_stop hwa (fun hq => by
        rw [← bD_in hq]
        unfold wNext; rw [if_pos rfl, if_neg hc])
      have hTh : Hid (ttN s p = q) := hT
      have hOh : Hid ((wGo 0 false ((byt s).drop p)).2 = true) := by show _ = _; rw [hO]; rfl
      obtain ⟨hA, hD, hE⟩ := h3
      rw [hA] at hLq
      rw [hD] at hDq
      rw [hE] at hHq
      have hrh : Hid (RdD wr R s q 0 fa fw) := hrd
      have honh : Hid (Only (fun b => b = R) w wr) := hon
      have hSt := fun k => stuck_d (wr.drewN k) R s q fa fw hrd hs
      have hSt0 := stuck_d wr R s q fa fw hrd hs
      have hEq : (((bD s q).toNat : Int) == 61) = (bD s q == 61) := u8eq (bD s q) 61
      clear hc hA hD hE hwa hT hO hrd hon hR0 hl hst
      cases h61 : bD s q == 61 with
      | false =>
        rw [h61] at hEq
        go_wp2_with (first
          | (go_at_call 23; refine hBq.mono ?_; rintro _ w1 ⟨rfl, hw⟩; have hw' := hw.symm; clear hw; subst hw')
          | (go_at_call 22; refine (hLq _).mono ?_; rintro _ w1 ⟨rfl, hw⟩; have hw' := hw.symm; clear hw; subst hw')
          | (go_at_call 24; refine (hDq _).mono ?_; rintro _ w1 ⟨rfl, hw⟩; have hw' := hw.symm; clear hw; subst hw')
          | (go_at_call 25; refine hSt0.mono ?_; rintro _ w1 ⟨rfl, hr1, ho1⟩))
        have hne : bD s q ≠ 61 := by intro e; rw [e] at h61; exact absurd h61 (by decide)
        have hb := tt_bad hTh.out hqs (.inr hne)
        go_ret
        unfold wordQ
        refine ⟨.inr ⟨by rw [hb]; exact stC_ne s q, rfl, ?_⟩, honh.out.then ho1⟩
        rw [hTh.out, hb]; exact hr1
      | true =>
        have he : bD s q = 61 := by simpa using h61
        obtain ⟨hg, hlt3⟩ := tt_good hTh.out hOh.out he
        have hgh : Hid ((ttP s ⟨p, ⟨#[]⟩, 0, [], []⟩).1 = 0) := hg
        rw [h61] at hEq
        have i1 : (0 : Int) ≤ (p : Int) := by omega
        have i2 : (p : Int) ≤ (q : Int) := by omega
        have i3 : (q : Int) ≤ (s.size : Int) := by omega
        clear hSt hSt0 he hg h61
        go_wp2_with (first
          | (go_at_call 23; refine hBq.mono ?_; rintro _ w1 ⟨rfl, hw⟩; have hw' := hw.symm; clear hw; subst hw')
          | (go_at_call 22; refine (hLq _).mono ?_; rintro _ w1 ⟨rfl, hw⟩; have hw' := hw.symm; clear hw; subst hw')
          | (go_at_call 24; refine (hDq _).mono ?_; rintro _ w1 ⟨rfl, hw⟩; have hw' := hw.symm; clear hw; subst hw'))
        go_quiet (fail)
        go_wp2
        go_ret
        unfold wordQ
        refine ⟨.inl ⟨hgh.out, by rw [hTh.out]; rfl, ?_⟩, (honh.out.drewN _).then (setOnly _ R 1 _)⟩
        rw [hTh.out]; exact RdD.put1 (w := wr.drewN _) hrh.out (q + 1)
end Go.Proofs.YtfiijlmpfpmgiaaGreatDoor
