/-
  A reader: a value.
-/
import Derived.Test.YtkbbkhdbigjngaaGreatDoorTd
import Derived.Test.YtkbbkhdbigjngaaGreatDoorTe
import Derived.Deep.RegionHeld3
namespace Go.Proofs.YtkbbkhdbigjngaaGreatDoor
open Go.RowKit

theorem Tab.ext {w w' : World} {g off cap : Nat} (h : Tab w g off cap) (x : Ext w w') : Tab w' g off cap := Tab.below h x (Nat.le_refl _)
theorem Tab.only {w w' : World} {g off cap : Nat} {S : Nat → Prop} (h : Tab w g off cap) (o : Only S w w') (hg : ¬ S g) (hG : ¬ S 1) : Tab w' g off cap := by
  have b1 := o.block g (World.block_lt_of_cell? w _ (h.c0 0 (by omega))) hg
  have b2 := o.block 1 (World.block_lt_of_cell? w _ h.var) hG
  have c1 : ∀ j, w'.cell? ⟨g, j, none⟩ = w.cell? ⟨g, j, none⟩ := fun j => by simp [World.cell?, b1]
  have c2 : ∀ j, w'.cell? ⟨1, j, none⟩ = w.cell? ⟨1, j, none⟩ := fun j => by simp [World.cell?, b2]
  exact ⟨(c2 0).trans h.var, fun k hk => (c1 _).trans (h.c0 k hk), fun k hk => (c1 _).trans (h.c1 k hk), fun k hk => (c1 _).trans (h.c2 k hk), fun k hk => (c1 _).trans (h.c3 k hk), fun k hk => (c1 _).trans (h.c4 k hk)⟩

/-- a value at a place: how far it goes -/
def valN (s : ByteArray) (p : Nat) (inP : Bool) : Nat := (extL (s.extract p s.size) inP).1
/-- what is wrong behind it -/
def valE (s : ByteArray) (p : Nat) (inP : Bool) : Nat := (extL (s.extract p s.size) inP).2
/-- what it says -/
def valS (s : ByteArray) (p : Nat) (inP : Bool) : ByteArray := str (exV (unescL (byt (s.extract p (p + valN s p inP)))))
/-- a value as it is read: what it says, or a new fault -/
def ValPost (w : World) (R : Nat) (s : ByteArray) (p k : Nat) (inP : Bool) (e : Ending) (w' : World) : Prop :=
  RdT w' R s (p + valN s p inP) k ∧ Only (fun g => g = R) w w' ∧
    (if valE s p inP = 0 then (if (valS s p inP).size ≤ 65536 then e = .returned (.tuple #[.string (valS s p inP), .nilIface]) else ∃ g, e = .returned (.tuple #[.string ⟨#[]⟩, errV g]) ∧ w.heap.size ≤ g ∧ FtAt w' g 3 p ⟨#[]⟩)
      else ∃ g, e = .returned (.tuple #[.string ⟨#[]⟩, errV g]) ∧ w.heap.size ≤ g ∧ FtAt w' g (valE s p inP) (p + valN s p inP) ⟨#[]⟩)
theorem extGo_le (s : ByteArray) (inP : Bool) : ∀ f pos, pos ≤ s.size → (extGo s inP f pos).1 ≤ s.size
  | 0, _, _ => Nat.le_refl _
  | f + 1, pos, h => by
    rw [extGo]
    split
    · rename_i hlt
      split
      · exact h
      · split
        · exact h
        · refine extGo_le s inP f _ ?_
          have h1 := decode_wid s pos hlt
          have h2 := wid_le ((byt s).drop pos)
          rw [List.length_drop, byt_length] at h2
          omega
    · exact Nat.le_refl _
theorem valN_le (s : ByteArray) (p : Nat) (inP : Bool) (h : p ≤ s.size) : p + valN s p inP ≤ s.size := by
  have := extGo_le (s.extract p s.size) inP (s.extract p s.size).size 0 (Nat.zero_le _)
  rw [ByteArray.size_extract] at this
  unfold valN extL
  rw [ByteArray.size_extract]
  omega

set_option maxRecDepth 100000 in
set_option maxHeartbeats 4000000 in
theorem value_any (w : World) (R : Nat) (s : ByteArray) (p k : Nat) (inP : Bool) (hr : RdT w R s p k) (hs : s.size ≤ 140737488355328) (hp : p ≤ s.size) (g off cap : Nat) (ht : Tab w g off cap) (hg : g ≠ R) (hG : 1 ≠ R) :
    Calls Tryz.prog 84 #[.pointer (some ⟨R, 0, none⟩), .bool inP] w (ValPost w R s p k inP) := by
  have hX := extent_any w g off cap ht (s.extract p s.size) inP (by rw [ByteArray.size_extract]; omega)
  have hle := valN_le s p inP hp
  have hvn : (extL (s.extract p s.size) inP).1 = valN s p inP := rfl
  have hve : (extL (s.extract p s.size) inP).2 = valE s p inP := rfl
  rw [hvn, hve] at hX
  clear hvn hve
  have hvs : Hid (valS s p inP = str (exV (unescL (byt (s.extract p (p + valN s p inP)))))) := rfl
  have hPost : ∀ e w', ValPost w R s p k inP e w' ↔ (RdT w' R s (p + valN s p inP) k ∧ Only (fun g => g = R) w w' ∧
    (if valE s p inP = 0 then (if (valS s p inP).size ≤ 65536 then e = .returned (.tuple #[.string (valS s p inP), .nilIface]) else ∃ g, e = .returned (.tuple #[.string ⟨#[]⟩, errV g]) ∧ w.heap.size ≤ g ∧ FtAt w' g 3 p ⟨#[]⟩)
      else ∃ g, e = .returned (.tuple #[.string ⟨#[]⟩, errV g]) ∧ w.heap.size ≤ g ∧ FtAt w' g (valE s p inP) (p + valN s p inP) ⟨#[]⟩)) := fun _ _ => Iff.rfl
  have hPh : Hid (∀ e w', ValPost w R s p k inP e w' ↔ _) := hPost
  clear hPost
  generalize valN s p inP = n at *
  generalize valE s p inP = ev at *
  obtain ⟨q, hq⟩ : ∃ q, Hid (q = p + n) := ⟨_, rfl⟩
  have hqi : (p : Int) + (n : Int) = (q : Int) := by have := hq.out; omega
  have hqs : q ≤ s.size := by have := hq.out; omega
  have hpq : p ≤ q := by have := hq.out; omega
  have hpi : (p : Int) ≤ (s.size : Int) := by omega
  rw [← hq.out] at hPh hvs hle
  have hrh : Hid (RdT w R s p k) := hr
  obtain ⟨c0, c1, c2, fz⟩ := hr.cells
  clear hr c2
  go_enter Tryz.func84, Tryz.ntmps84
  go_wp2_with fail
  go_at_call 91
  refine hX.mono ?_
  rintro _ w1 ⟨rfl, x1⟩
  have r1 := hrh.out.ext x1
  have t1 := ht.ext x1
  clear c0 c1 fz hrh hX
  obtain ⟨c0, c1, c2, fz⟩ := r1.cells
  have r2 := r1.set1 q
  have o2 := (x1.only (S := fun g => g = R)).then (setOnly w1 R 1 (.int .i64 q))
  have t2 : Tab (w1.setCell ⟨R, 1, none⟩ (.int .i64 q)) g off cap := t1.only (setOnly w1 R 1 (.int .i64 q)) hg hG
  clear c2
  by_cases hev : ev = 0
  · subst hev
    have hU := fun w2 (x : Tab w2 g off cap) => Unescape_any w2 g off cap x (s.extract p q) (by rw [ByteArray.size_extract]; omega)
    rw [← hvs.out] at hU
    have hPh2 : Hid (∀ e w', ValPost w R s p k inP e w' ↔ (RdT w' R s q k ∧ Only (fun g => g = R) w w' ∧ (if (valS s p inP).size ≤ 65536 then e = .returned (.tuple #[.string (valS s p inP), .nilIface]) else ∃ g, e = .returned (.tuple #[.string ⟨#[]⟩, errV g]) ∧ w.heap.size ≤ g ∧ FtAt w' g 3 p ⟨#[]⟩))) := hPh.out
    clear hPh hvs
    generalize valS s p inP = vs at *
    go_wp2_with fail
    generalize w1.setCell ⟨R, 1, none⟩ (.int .i64 (q : Int)) = w2 at r2 o2 t2 ⊢
    clear c0 c1 fz r1 t1 x1
    have hrh : Hid (RdT w2 R s q k) := r2
    have hoh : Hid (Only (fun g => g = R) w w2) := o2
    obtain ⟨c0, c1, c2, fz⟩ := r2.cells
    have hU2 : Calls Tryz.prog 92 #[.string (s.extract p q)] w2.drew fun e w' => ∃ ee : Nat, e = .returned (.tuple #[.string vs, .int .i64 ee]) ∧ Hid (Ext w2 w') ∧ w'.cell? ⟨R, 0, none⟩ = some (.string s) ∧ w'.cell? ⟨R, 1, none⟩ = some (.int .i64 q) := by
      refine (hU w2.drew (t2.ext ((Ext.refl w2).drew))).mono ?_
      rintro e w3 ⟨rfl, h3⟩
      have x := ((Ext.refl w2).drew).trans h3.1
      exact ⟨_, rfl, x, x.cell c0, x.cell c1⟩
    have hqi2 : (q : Int) ≤ (s.size : Int) := by omega
    have hpq2 : (p : Int) ≤ (q : Int) := by omega
    clear r2 o2 t2 c2 fz hU
    go_region_held3 (fun W => W.cell? ⟨R, 0, none⟩ = some (.string s) ∧ W.cell? ⟨R, 1, none⟩ = some (.int .i64 q)) (go_keep) ((go_at_call 92; refine hU2.mono ?_; rintro _ w3 ⟨ee, rfl, x3, z0, z1⟩))
    by_cases h65 : vs.size ≤ 65536
    · have h65i : ¬ (65536 : Int) < (vs.size : Int) := by omega
      have h65h : Hid (vs.size ≤ 65536) := h65
      clear h65
      go_wp2
      go_ret2
      rw [hPh2.out, if_pos h65h.out]
      exact ⟨hrh.out.ext x3.out, hoh.out.ext x3.out, rfl⟩
    · have h65i : (65536 : Int) < (vs.size : Int) := by omega
      have h65h : Hid (¬ vs.size ≤ 65536) := h65
      clear h65
      go_wp2_with fail
      go_at_call 33
      refine (fault_any _ 3 p).mono ?_
      rintro _ _ ⟨rfl, rfl⟩
      go_wp2
      go_ret2
      rw [hPh2.out, if_neg h65h.out]
      have x4 := x3.out.alloc (.cells #[.int .i64 3, .int .i64 p, .string ⟨#[]⟩] 33)
      exact ⟨hrh.out.ext x4, hoh.out.ext x4, _, rfl, Nat.le_trans hoh.out.size x3.out.size, heap_alloc_new _ _⟩
  · have hevi : ((ev : Int) == 0) = false := by simp; omega
    have hevh : Hid (¬ ev = 0) := hev
    clear hev hvs
    go_wp2_with fail
    go_at_call 33
    refine (fault_any _ ev q).mono ?_
    rintro _ _ ⟨rfl, rfl⟩
    go_wp2
    go_ret2
    rw [hPh.out, if_neg hevh.out]
    have x4 := (Ext.refl (w1.setCell ⟨R, 1, none⟩ (.int .i64 (q : Int)))).alloc (.cells #[.int .i64 ev, .int .i64 q, .string ⟨#[]⟩] 33)
    have h5 := heap_alloc_new (w1.setCell ⟨R, 1, none⟩ (.int .i64 (q : Int))) (.cells #[.int .i64 ev, .int .i64 q, .string ⟨#[]⟩] 33)
    rw [show (w1.setCell ⟨R, 1, none⟩ (.int .i64 (q : Int))).heap.size = w1.heap.size by simp [World.setCell]] at h5
    exact ⟨r2.ext x4, o2.ext x4, _, rfl, x1.size, h5⟩
end Go.Proofs.YtkbbkhdbigjngaaGreatDoor
