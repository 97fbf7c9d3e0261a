/-
  A reader's faults; what was read from a place on; a byte that must come; a number.
-/
import Derived.Test.YtkbbkhdbigjngaaGreatDoorTa
namespace Go.Proofs.YtkbbkhdbigjngaaGreatDoor
open Go.RowKit

/-- a fault in memory -/
def FtAt (w : World) (g : Nat) (c p : Nat) (wd : ByteArray) : Prop := w.heap[g]? = some (.cells #[.int .i64 c, .int .i64 p, .string wd] 33 (0, 0))
/-- a fault as an error -/
def errV (g : Nat) : Value := .iface 55 (.pointer (some ⟨g, 0, none⟩))
/-- no error, or a new fault -/
def NilOr (w w' : World) (v : Value) (ok : Bool) (c p : Nat) : Prop := (ok = true ∧ v = .nilIface) ∨ (ok = false ∧ ∃ g, v = errV g ∧ w.heap.size ≤ g ∧ FtAt w' g c p ⟨#[]⟩)
/-- what is told where nothing that may stand comes next -/
def stuckC (s : ByteArray) (p : Nat) : Nat := if p = s.size then 5 else 50
theorem FtAt.ext {w w' : World} {g c p : Nat} {wd : ByteArray} (h : FtAt w g c p wd) (x : Ext w w') : FtAt w' g c p wd := (x.block g (Array.getElem?_eq_some_iff.1 h).1).trans h
theorem FtAt.drewN {w : World} {g c p : Nat} {wd : ByteArray} (h : FtAt w g c p wd) (n : Nat) : FtAt (w.drewN n) g c p wd := h
theorem FtAt.only {w w' : World} {S : Nat → Prop} {g c p : Nat} {wd : ByteArray} (h : FtAt w g c p wd) (x : Only S w w') (hg : ¬ S g) : FtAt w' g c p wd := (x.block g (Array.getElem?_eq_some_iff.1 h).1 hg).trans h
theorem NilOr.yes {w w' : World} {v : Value} {c p : Nat} (h : NilOr w w' v true c p) : v = .nilIface := by
  rcases h with h | ⟨h, _⟩
  · exact h.2
  · cases h
theorem NilOr.no {w w' : World} {v : Value} {c p : Nat} (h : NilOr w w' v false c p) : ∃ g, v = errV g ∧ w.heap.size ≤ g ∧ FtAt w' g c p ⟨#[]⟩ := by
  rcases h with ⟨h, _⟩ | h
  · cases h
  · exact h.2
theorem nilOr_yes (w w' : World) (c p : Nat) : NilOr w w' .nilIface true c p := .inl ⟨rfl, rfl⟩
theorem nilOr_no {w w' : World} {g c p : Nat} (h1 : w.heap.size ≤ g) (h2 : FtAt w' g c p ⟨#[]⟩) : NilOr w w' (errV g) false c p := .inr ⟨rfl, g, rfl, h1, h2⟩

theorem fault_any (w : World) (c p : Nat) :
    Calls Tryz.prog 33 #[.int .i64 c, .int .i64 p] w fun e w' => e = .returned (errV w.heap.size) ∧ w' = w.alloc (.cells #[.int .i64 c, .int .i64 p, .string ⟨#[]⟩] 33) := by
  go_enter Tryz.func33, Tryz.ntmps33
  go_wp2
  go_ret
  exact ⟨rfl, rfl⟩

set_option maxHeartbeats 1000000 in
theorem cannotStand_any (w : World) (R : Nat) (s : ByteArray) (p k : Nat) (hr : RdT w R s p k) :
    Calls Tryz.prog 17 #[.pointer (some ⟨R, 0, none⟩)] w fun e w' => (∃ g, e = .returned (errV g) ∧ w.heap.size ≤ g ∧ FtAt w' g (stuckC s p) p ⟨#[]⟩) ∧ Ext w w' := by
  obtain ⟨c0, c1, c2, fz⟩ := hr.cells
  clear hr c2 fz
  by_cases h : p = s.size
  · have hi : ((p : Int) == (s.size : Int)) = true := by simp; omega
    have hv : Hid (stuckC s p = 5) := if_pos h
    clear h
    go_enter Tryz.func17, Tryz.ntmps17
    go_wp2_with fail
    go_quiet (fail)
    go_wp2_with fail
    go_at_call 33
    refine (fault_any _ 5 p).mono ?_
    rintro _ _ ⟨rfl, rfl⟩
    go_wp2
    go_ret
    refine ⟨⟨_, rfl, Nat.le_refl _, ?_⟩, ((Ext.refl w).drewN _).alloc _⟩
    rw [hv.out]
    exact heap_alloc_new _ _
  · have hi : ((p : Int) == (s.size : Int)) = false := by simp; omega
    have hv : Hid (stuckC s p = 50) := if_neg h
    go_enter Tryz.func17, Tryz.ntmps17
    go_wp2_with fail
    go_quiet (fail)
    go_wp2_with fail
    go_at_call 33
    refine (fault_any _ 50 p).mono ?_
    rintro _ _ ⟨rfl, rfl⟩
    go_wp2
    go_ret
    refine ⟨⟨_, rfl, Nat.le_refl _, ?_⟩, ((Ext.refl w).drewN _).alloc _⟩
    rw [hv.out]
    exact heap_alloc_new _ _

set_option maxHeartbeats 1000000 in
theorem since_long (w : World) (R : Nat) (s : ByteArray) (p k q : Nat) (hr : RdT w R s p k) (hs : s.size ≤ 140737488355328) (hp : p ≤ s.size) (h : 65536 < p - q) :
    Calls Tryz.prog 18 #[.pointer (some ⟨R, 0, none⟩), .int .i64 q] w fun e w' => (∃ g, e = .returned (.tuple #[.string ⟨#[]⟩, errV g]) ∧ w.heap.size ≤ g ∧ FtAt w' g 3 q ⟨#[]⟩) ∧ Ext w w' := by
  obtain ⟨c0, c1, c2, fz⟩ := hr.cells
  clear hr c2 fz
  obtain ⟨d, hd⟩ : ∃ d, Hid (d = p - q) := ⟨_, rfl⟩
  have hdi : (p : Int) - (q : Int) = (d : Int) := by have := hd.out; omega
  have hli : (65536 : Int) < (d : Int) := by have := hd.out; omega
  clear h
  go_enter Tryz.func18, Tryz.ntmps18
  go_wp2_with fail
  go_at_call 33
  refine (fault_any _ 3 q).mono ?_
  rintro _ _ ⟨rfl, rfl⟩
  go_wp2
  go_ret2
  exact ⟨⟨_, rfl, Nat.le_refl _, heap_alloc_new _ _⟩, (Ext.refl w).alloc _⟩
set_option maxHeartbeats 1000000 in
theorem since_ok (w : World) (R : Nat) (s : ByteArray) (p k q : Nat) (hr : RdT w R s p k) (hp : p ≤ s.size) (hq : q ≤ p) (h : p - q ≤ 65536) :
    Calls Tryz.prog 18 #[.pointer (some ⟨R, 0, none⟩), .int .i64 q] w fun e w' => e = .returned (.tuple #[.string (s.extract q p), .nilIface]) ∧ Ext w w' := by
  obtain ⟨c0, c1, c2, fz⟩ := hr.cells
  clear hr c2 fz
  obtain ⟨d, hd⟩ : ∃ d, Hid (d = p - q) := ⟨_, rfl⟩
  have hdi : (p : Int) - (q : Int) = (d : Int) := by have := hd.out; omega
  have hli : ¬ (65536 : Int) < (d : Int) := by have := hd.out; omega
  have hpi : (p : Int) ≤ (s.size : Int) := by omega
  have hqi : (q : Int) ≤ (p : Int) := by omega
  clear h
  go_enter Tryz.func18, Tryz.ntmps18
  go_wp2_with fail
  go_quiet (fail)
  go_wp2
  go_ret2
  exact ⟨rfl, (Ext.refl w).drewN _⟩

set_option maxHeartbeats 1000000 in
theorem must_any (w : World) (R : Nat) (s : ByteArray) (p k : Nat) (b : UInt8) (hr : RdT w R s p k) (hs : s.size ≤ 140737488355328) :
    Calls Tryz.prog 54 #[.pointer (some ⟨R, 0, none⟩), .int .u8 b.toNat] w fun e w' => (∃ v, e = .returned v ∧ NilOr w w' v (hdIs b ((byt s).drop p)) (stuckC s p) p) ∧ RdT w' R s (if hdIs b ((byt s).drop p) then p + 1 else p) k ∧ Only (fun g => g = R) w w' := by
  have hn := take_any w R s p k b hr hs
  generalize hdIs b ((byt s).drop p) = q at *
  cases q
  · go_enter Tryz.func54, Tryz.ntmps54
    go_wp2_with fail
    go_at_call 14
    refine hn.mono ?_
    rintro _ w1 ⟨rfl, r1, o1⟩
    go_wp2_with fail
    go_at_call 17
    refine (cannotStand_any _ R s p k r1).mono ?_
    rintro _ w2 ⟨⟨g, rfl, hg, hf⟩, x2⟩
    go_wp2
    go_ret
    exact ⟨⟨_, rfl, nilOr_no (Nat.le_trans o1.size hg) hf⟩, r1.ext x2, o1.ext x2⟩
  · go_enter Tryz.func54, Tryz.ntmps54
    go_wp2_with fail
    go_at_call 14
    refine hn.mono ?_
    rintro _ w1 ⟨rfl, r1, o1⟩
    go_wp2
    go_ret
    exact ⟨⟨_, rfl, nilOr_yes _ _ _ _⟩, r1, o1⟩

set_option maxHeartbeats 1000000 in
theorem number_any (w : World) (R : Nat) (s : ByteArray) (p k : Nat) (hr : RdT w R s p k) (hs : s.size ≤ 140737488355328) (hp : p ≤ s.size) :
    Calls Tryz.prog 51 #[.pointer (some ⟨R, 0, none⟩)] w fun e w' => e = .returned (.bool (decide (0 < numN ((byt s).drop p)))) ∧ RdT w' R s (p + numN ((byt s).drop p)) k ∧ Only (fun g => g = R) w w' := by
  have hn := take_any w R s p k 48 hr hs
  have hu : numN ((byt s).drop p) = if hdIs 48 ((byt s).drop p) then 1 else spanN tDig ((byt s).drop p) := rfl
  generalize hdIs 48 ((byt s).drop p) = q at *
  cases q
  · have hv : Hid (numN ((byt s).drop p) = spanN tDig ((byt s).drop p)) := hu
    clear hu
    go_enter Tryz.func51, Tryz.ntmps51
    go_wp2_with fail
    go_at_call 14
    refine hn.mono ?_
    rintro _ w1 ⟨rfl, r1, o1⟩
    go_wp2_with fail
    go_at_call 15
    refine (takeAll_dig _ R s p k r1 hs hp).mono ?_
    rintro _ w2 ⟨rfl, r2, o2⟩
    go_wp2
    go_ret
    rw [hv.out]
    exact ⟨rfl, r2, o1.then o2⟩
  · have hv : Hid (numN ((byt s).drop p) = 1) := hu
    clear hu
    go_enter Tryz.func51, Tryz.ntmps51
    go_wp2_with fail
    go_at_call 14
    refine hn.mono ?_
    rintro _ w1 ⟨rfl, r1, o1⟩
    go_wp2
    go_ret
    rw [hv.out]
    exact ⟨rfl, r1, o1⟩
end Go.Proofs.YtkbbkhdbigjngaaGreatDoor
