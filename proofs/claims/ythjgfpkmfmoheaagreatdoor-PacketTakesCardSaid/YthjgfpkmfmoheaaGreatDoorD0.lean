/-
  An item's header as a value, its tag; the tag is the item's first byte.
-/
import Derived.Test.YthjgfpkmfmoheaaGreatDoorRl
namespace Go.Proofs.YthjgfpkmfmoheaaGreatDoor
open Go.RowKit Go.Shelf

/-- an item's header as a value -/
def jV (t : Tl) : Value := .agg #[.int .i8 t.cls, .bool t.cons, .int .i64 t.num, .int .i64 t.fro, .int .i64 t.til]
/-- what a header may be -/
structure Tl.Fine (t : Tl) : Prop where
  c : t.cls ≤ 3
  n : t.num < 31
  f : t.fro ≤ t.til
  b : t.til < 36028797018963968
def jTag (t : Tl) : Nat := if t.cons then 64 * t.cls + t.num + 32 else 64 * t.cls + t.num
def jText (t : Tl) (want : Nat) : Bool := decide (jTag t = want) && decide (t.til - t.fro ≤ 65536)
theorem jbox (w : World) (t : Tl) : let w1 := w.alloc (.cells #[.int .i8 t.cls, .bool t.cons, .int .i64 t.num, .int .i64 t.fro, .int .i64 t.til] 94); w1.heap[w.heap.size]? = some (.cells #[.int .i8 t.cls, .bool t.cons, .int .i64 t.num, .int .i64 t.fro, .int .i64 t.til] 94 (0, 0)) ∧ Ext w w1 := ⟨heap_alloc_new _ _, (Ext.refl w).alloc _⟩
theorem jcells {w : World} {B : Nat} {t : Tl} (h : w.heap[B]? = some (.cells #[.int .i8 t.cls, .bool t.cons, .int .i64 t.num, .int .i64 t.fro, .int .i64 t.til] 94 (0, 0))) : w.cell? ⟨B, 0, none⟩ = some (.int .i8 t.cls) ∧ w.cell? ⟨B, 1, none⟩ = some (.bool t.cons) ∧ w.cell? ⟨B, 2, none⟩ = some (.int .i64 t.num) ∧ w.cell? ⟨B, 3, none⟩ = some (.int .i64 t.fro) ∧ w.cell? ⟨B, 4, none⟩ = some (.int .i64 t.til) :=
  ⟨cell_of_row _ _ 0 _ _ _ h, cell_of_row _ _ 1 _ _ _ h, cell_of_row _ _ 2 _ _ _ h, cell_of_row _ _ 3 _ _ _ h, cell_of_row _ _ 4 _ _ _ h⟩

theorem head_tag {l : List UInt8} {n e : Nat} (h : (headL l n e).2 = 0) : bAt l n = jTag (headL l n e).1 ∧ (headL l n e).1.cls ≤ 3 ∧ (headL l n e).1.num < 31 := by
  have hok := headL_ok l n e h
  unfold headL at h ⊢
  rw [if_pos (by omega)] at h ⊢
  simp only [Int.toNat_natCast] at h ⊢
  have hne : n < e := by omega
  have hc : (cutB l n e)[0]? = l[n]? := by
    unfold cutB
    rw [List.getElem?_drop, Nat.add_zero, List.getElem?_take, if_pos hne]
  cases hb : cutB l n e with
  | nil => rw [hb] at h; simp [headB] at h
  | cons t r =>
    rw [hb] at h hc
    have hbt : bAt l n = t.toNat := by unfold bAt; rw [← hc]; rfl
    have ht : t.toNat < 256 := t.toNat_lt
    simp only [headB] at h ⊢
    by_cases h31 : t.toNat % 32 = 31
    · rw [if_pos h31] at h; simp at h
    · by_cases h9 : (bodyLen r).2.2 ≠ 0
      · rw [if_neg h31, if_pos h9] at h; exact absurd h h9
      · rw [if_neg h31, if_neg h9]
        refine ⟨?_, ?_, ?_⟩
        · rw [hbt]
          simp only [jTag]
          split
          · rename_i hq; simp at hq; omega
          · rename_i hq; simp at hq; omega
        · show t.toNat / 64 ≤ 3; omega
        · show t.toNat % 32 < 31; omega
end Go.Proofs.YthjgfpkmfmoheaaGreatDoor
