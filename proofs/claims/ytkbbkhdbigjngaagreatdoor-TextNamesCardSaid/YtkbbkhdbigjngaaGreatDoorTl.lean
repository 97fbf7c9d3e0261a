/-
  package text's letters and digits; a reader in memory; the byte that comes next.
-/
import Derived.Test.YtkbbkhdbigjngaaGreatDoorTp
import Derived.Test.YtkbbkhdbigjngaaGreatDoorXpush
import Derived.Deep.QuietTactic
import Derived.BigQuiet
import Derived.Deep.RegionWith
namespace Go.Proofs.YtkbbkhdbigjngaaGreatDoor
open Go.RowKit

set_option maxHeartbeats 400000 in
theorem tLet_any (b : UInt8) (w : World) : Calls Tryz.prog 29 #[.int .u8 b.toNat] w fun e w' => e = .returned (.bool (tLet b)) ∧ w' = w := by
  have hb := b.toNat_lt
  have hu : tLet b = ((decide (97 ≤ b.toNat) && decide (b.toNat ≤ 122)) || (decide (65 ≤ b.toNat) && decide (b.toNat ≤ 90))) := rfl
  rw [hu]; clear hu
  generalize b.toNat = c at *
  rcases (show c < 65 ∨ (65 ≤ c ∧ c ≤ 90) ∨ (91 ≤ c ∧ c < 97) ∨ (97 ≤ c ∧ c ≤ 122) ∨ 123 ≤ c by omega) with h | ⟨h1, h2⟩ | ⟨h1, h2⟩ | ⟨h1, h2⟩ | h
  all_goals
    go_enter Tryz.func29, Tryz.ntmps29
    go_wp2
    go_ret
    refine ⟨ret_b ?_, rfl⟩
    first | rfl | (rw [Bool.eq_iff_iff]; simp; omega) | (rw [Bool.eq_iff_iff]; simp; done)
set_option maxHeartbeats 400000 in
theorem tDig_any (b : UInt8) (w : World) : Calls Tryz.prog 32 #[.int .u8 b.toNat] w fun e w' => e = .returned (.bool (tDig b)) ∧ w' = w := by
  have hb := b.toNat_lt
  have hu : tDig b = (decide (48 ≤ b.toNat) && decide (b.toNat ≤ 57)) := rfl
  rw [hu]; clear hu
  generalize b.toNat = c at *
  rcases (show c < 48 ∨ (48 ≤ c ∧ c ≤ 57) ∨ 58 ≤ c by omega) with h | ⟨h1, h2⟩ | h
  all_goals
    go_enter Tryz.func32, Tryz.ntmps32
    go_wp2
    go_ret
    refine ⟨ret_b ?_, rfl⟩
    first | rfl | (rw [Bool.eq_iff_iff]; simp; omega) | (rw [Bool.eq_iff_iff]; simp; done)
set_option maxHeartbeats 400000 in
theorem tInn_any (b : UInt8) (w : World) : Calls Tryz.prog 16 #[.int .u8 b.toNat] w fun e w' => e = .returned (.bool (tInn b)) ∧ w' = w := by
  have h1 := tLet_any b
  have h2 := tDig_any b
  have hu : tInn b = (tLet b || tDig b || ((b.toNat : Int) == 45)) := by
    unfold tInn; rw [← beq_int b 45]; rfl
  rw [hu]; clear hu
  generalize tLet b = x at *
  generalize tDig b = y at *
  cases x <;> cases y
  all_goals
    go_enter Tryz.func16, Tryz.ntmps16
    go_wp2_with (first | (go_at_call 29; refine (h1 _).mono ?_; rintro _ _ ⟨rfl, rfl⟩) | (go_at_call 32; refine (h2 _).mono ?_; rintro _ _ ⟨rfl, rfl⟩))
    go_ret
    refine ⟨ret_b ?_, rfl⟩
    simp

/-- a reader in memory -/
def RdT (w : World) (R : Nat) (s : ByteArray) (p k : Nat) : Prop :=
  w.heap[R]? = some (.cells #[.string s, .int .i64 p, .int .i64 k] 25 (0, 0))
theorem RdT.cells {w : World} {R : Nat} {s : ByteArray} {p k : Nat} (h : RdT w R s p k) :
    w.cell? ⟨R, 0, none⟩ = some (.string s) ∧ w.cell? ⟨R, 1, none⟩ = some (.int .i64 p) ∧ w.cell? ⟨R, 2, none⟩ = some (.int .i64 k) ∧ (∀ j, w.frozen? ⟨R, j, none⟩ = false) :=
  ⟨cell_of_row _ _ 0 _ _ _ h, cell_of_row _ _ 1 _ _ _ h, cell_of_row _ _ 2 _ _ _ h, fun j => by simp [World.frozen?, show w.heap[R]? = _ from h]⟩
section
variable {w : World} {R : Nat} {s : ByteArray} {p k : Nat}
theorem RdT.set1 (h : RdT w R s p k) (q : Nat) : RdT (w.setCell ⟨R, 1, none⟩ (.int .i64 q)) R s q k := heap_setCell_at w R 1 _ _ _ _ h
theorem RdT.set2 (h : RdT w R s p k) (q : Nat) : RdT (w.setCell ⟨R, 2, none⟩ (.int .i64 q)) R s p q := heap_setCell_at w R 2 _ _ _ _ h
theorem RdT.drewN (h : RdT w R s p k) (n : Nat) : RdT (w.drewN n) R s p k := h
theorem RdT.ext {w' : World} (h : RdT w R s p k) (x : Ext w w') : RdT w' R s p k := (x.block R (Array.getElem?_eq_some_iff.1 h).1).trans h
theorem RdT.lt (h : RdT w R s p k) : R < w.heap.size := (Array.getElem?_eq_some_iff.1 h).1
theorem RdT.only {w' : World} {S : Nat → Prop} (h : RdT w R s p k) (x : Only S w w') (hR : ¬ S R) : RdT w' R s p k := (x.block R h.lt hR).trans h
end
theorem setOnly (w : World) (g o : Nat) (u : Value) : Only (fun k => k = g) w (w.setCell ⟨g, o, none⟩ u) := (Only.refl _ w).setCell (S := fun k => k = g) (p := ⟨g, o, none⟩) (Or.inl rfl) u
theorem Only.drewN {S : Nat → Prop} {a w : World} (h : Only S a w) (n : Nat) : Only S a (w.drewN n) := ⟨h.os, h.tape, h.output, h.size, h.block⟩

end Go.Proofs.YtkbbkhdbigjngaaGreatDoor
