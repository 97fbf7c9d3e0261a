/-
 An item's header as a value, its tag; the tag is the item's first byte.
-/
import Derived.Test.YthjgfpkmfmoheaaGreatDoorRl
namespace Go.Proofs.YthjgfpkmfmoheaaGreatDoor
open Go.RowKit Go.Shelf

def jV (t : Tl) : Value := .agg #[.int .i8 t.cls, .bool t.cons, .int .i64 t.num, .int .i64 t.fro, .int .i64 t.til]
structure Tl.Fine (t : Tl) : Prop where
 c : t.cls ≤ 3
 n : t.num < 31
 f : t.fro ≤ t.til
 b : t.til < 36028797018963968
def jTag (t : Tl) : Nat := if t.cons then 64 * t.cls + t.num + 32 else 64 * t.cls + t.num
def jText (t : Tl) (want : Nat) : Bool := decide (jTag t = want) && decide (t.til - t.fro ≤ 65536)
theorem jbox (w : World) (t : Tl) : let w1 := w.alloc (.cells #[.int .i8 t.cls, .bool t.cons, .int .i64 t.num, .int .i64 t.fro, .int .i64 t.til] 94); w1.heap[w.heap.size]? = some (.cells #[.int .i8 t.cls, .bool t.cons, .int .i64 t.num, .int .i64 t.fro, .int .i64 t.til] 94 (0, 0)) ∧ Ext w w1 := ⟨heap_alloc_new _ _, (Ext.refl w).alloc _⟩
theorem jcells {w : World} {B : Nat} {t : Tl} (h : w.heap[B]? = some (.cells #[.int .i8 t.cls, .bool t.cons, .int .i64 t.num, .int .i64 t.fro, .int .i64 t.til] 94 (0, 0))) : w.cell? ⟨B, 0, none⟩ = some (.int .i8 t.cls) ∧ w.cell? ⟨B, 1, none⟩ = some (.bool t.cons) ∧ w.cell? ⟨B, 2, none⟩ = some (.int .i64 t.num) ∧ w.cell? ⟨B, 3, none⟩ = some (.int .i64 t.fro) ∧ w.cell? ⟨B, 4, none⟩ = some (.int .i64 t.til) :=
 ⟨cell_of_row _ _ 0 _ _ _ h, cell_of_row _ _ 1 _ _ _ h, cell_of_row _ _ 2 _ _ _ h, cell_of_row _ _ 3 _ _ _ h, cell_of_row _ _ 4 _ _ _ h⟩

theorem head_tag {l : List UInt8} {n e : Nat} (h : (headL l n e).2 = 0) : bAt l n = jTag (headL l n e).1 ∧ (headL l n e).1.cls ≤ 3 ∧ (headL l n e).1.num < 31 := by
 have hok := headL_ok l n e h
 unfold headL at h ⊢
 rw [if_pos (by omega)] at h ⊢
 simp only [Int.toNat_natCast] at h ⊢
 have hne : n < e := by omega
 have hc : (cutB l n e)[0]? = l[n]? := by
   unfold cutB
   rw [List.getElem?_drop, Nat.add_zero, List.getElem?_take, if_pos hne]
 cases hb : cutB l n e with
 | nil => rw [hb] at h; simp [headB] at h
 | cons t r =>
   rw [hb] at h hc
   have hbt : bAt l n = t.toNat := by unfold bAt; rw [← hc]; rfl
   have ht : t.toNat < 256 := t.toNat_lt
   simp only [headB] at h ⊢
   by_cases h31 : t.toNat % 32 = 31
   · rw [if_pos h31] at h; simp at h
   · by_cases h9 : (bodyLen r).2.2 ≠ 0
     · rw [if_neg h31, if_pos h9] at h; exact absurd h h9
     · rw [if_neg h31, if_neg h9]
       refine ⟨?_, ?_, ?_⟩
       · rw [hbt]
         simp only [jTag]
         split
         · rename_i hq; simp at hq; omega
         · rename_i hq; simp at hq; omega
       · show t.toNat / 64 ≤ 3; omega
       · show t.toNat % 32 < 31; omega
end Go.Proofs.YthjgfpkmfmoheaaGreatDoor

/-
 The document's own reader of packets (rosterref11): its memory, fail, tag.
-/
namespace Go.Proofs.YthjgfpkmfmoheaaGreatDoor
open Go.RowKit Go.Shelf

def RfB (w : World) (R : Nat) (v : Value) (n c : Nat) (a : Int) : Prop := w.heap[R]? = some (.cells #[v, .int .i64 n, .int .i64 c, .int .i64 a] 59 (0, 0))
theorem RfB.ext {w w' : World} {R : Nat} {v : Value} {n c : Nat} {a : Int} (h : RfB w R v n c a) (x : Ext w w') : RfB w' R v n c a := (x.block R (Array.getElem?_eq_some_iff.1 h).1).trans h
theorem RfB.cells {w : World} {R : Nat} {v : Value} {n c : Nat} {a : Int} (h : RfB w R v n c a) : w.cell? ⟨R, 0, none⟩ = some v ∧ w.cell? ⟨R, 1, none⟩ = some (.int .i64 n) ∧ w.cell? ⟨R, 2, none⟩ = some (.int .i64 c) ∧ w.cell? ⟨R, 3, none⟩ = some (.int .i64 a) ∧ ∀ j, w.frozen? ⟨R, j, none⟩ = false :=
 ⟨cell_of_row _ _ 0 _ _ _ h, cell_of_row _ _ 1 _ _ _ h, cell_of_row _ _ 2 _ _ _ h, cell_of_row _ _ 3 _ _ _ h, fun j => by simp [World.frozen?, show w.heap[R]? = _ from h]⟩
def failC (c e : Nat) : Nat := if c = 0 then e else c
def failA (c : Nat) (a b : Int) : Int := if c = 0 then b else a

set_option maxRecDepth 100000 in
set_option maxHeartbeats 4000000 in
theorem dFail_any (w : World) (R : Nat) (v : Value) (n c : Nat) (a : Int) (e : Nat) (b : Int) (h : RfB w R v n c a) : Calls Tryz.prog 57 #[.pointer (some ⟨R, 0, none⟩), .int .i64 e, .int .i64 b] w fun x w' => x = .returned (.tuple #[]) ∧ RfB w' R v n (failC c e) (failA c a b) ∧ Only (fun g => g = R) w w' := by
 obtain ⟨c0, c1, c2, c3, cz⟩ := h.cells
 by_cases hc : c = 0
 · have h1 : RfB (w.setCell ⟨R, 2, none⟩ (.int .i64 e)) R v n e a := heap_setCell_at w R 2 _ _ _ _ h
   have h2 : RfB ((w.setCell ⟨R, 2, none⟩ (.int .i64 e)).setCell ⟨R, 3, none⟩ (.int .i64 b)) R v n e b := heap_setCell_at _ R 3 _ _ _ _ h1
   have o1 : Only (fun g => g = R) w (w.setCell ⟨R, 2, none⟩ (.int .i64 e)) := Only.setCell (S := fun g => g = R) (Only.refl _ w) (p := ⟨R, 2, none⟩) (.inl rfl) _
   have o2 : Only (fun g => g = R) w ((w.setCell ⟨R, 2, none⟩ (.int .i64 e)).setCell ⟨R, 3, none⟩ (.int .i64 b)) := Only.setCell (S := fun g => g = R) o1 (p := ⟨R, 3, none⟩) (.inl rfl) _
   have hr : Hid (failC c e = e ∧ failA c a b = b) := ⟨if_pos hc, if_pos hc⟩
   subst hc
   have cz2 := cz 2
   obtain ⟨-, -, -, d3, dz⟩ := h1.cells
   have dz3 := dz 3
   clear h h1 o1 cz dz
   go_enter Tryz.func57, Tryz.ntmps57
   go_wp2
   go_end0
   refine ⟨rfl, ?_, o2⟩
   rw [hr.out.1, hr.out.2]
   exact h2
 · have hr : Hid (failC c e = c ∧ failA c a b = a) := ⟨if_neg hc, if_neg hc⟩
   have m0 : ((c : Int) == 0) = false := by simp; exact hc
   clear hc
   go_enter Tryz.func57, Tryz.ntmps57
   go_wp2
   go_end0
   refine ⟨rfl, ?_, Only.refl _ _⟩
   rw [hr.out.1, hr.out.2]
   exact h

set_option maxRecDepth 100000 in
set_option maxHeartbeats 4000000 in
theorem dTag_any (w : World) (t : Tl) (ht : t.Fine) : Calls Tryz.prog 58 #[jV t] w fun e w' => e = .returned (.int .i64 (jTag t)) ∧ Ext w w' := by
 obtain ⟨h1, h2, -, -⟩ := ht
 obtain ⟨b0, x0⟩ := jbox w t
 obtain ⟨cls, cons, num, fro, til⟩ := t
 simp only [jV] at h1 h2 b0 x0 ⊢
 go_enter Tryz.func58, Tryz.ntmps58
 go_upto_region 1 with fail
 generalize w.alloc _ = w1 at b0 x0 ⊢
 obtain ⟨c0, c1, c2, c3, c4⟩ := jcells (t := ⟨cls, cons, num, fro, til⟩) b0
 simp only at c0 c1 c2 c3 c4
 cases cons with
 | true =>
   go_wp2
   go_ret
   refine ⟨?_, x0⟩
   show Ending.returned (.int .i64 _) = Ending.returned (.int .i64 _)
   congr 2
 | false =>
   go_wp2
   go_ret
   refine ⟨?_, x0⟩
   show Ending.returned (.int .i64 _) = Ending.returned (.int .i64 _)
   congr 2
end Go.Proofs.YthjgfpkmfmoheaaGreatDoor
