/-
  The contract of Valid: whether no byte of a text stands alone.
-/
import Derived.Test.YtkbbkhdbigjngaaGreatDoorWidth
import Derived.Test.YtkbbkhdbigjngaaGreatDoorMathE
namespace Go.Proofs.YtkbbkhdbigjngaaGreatDoor
open Go.RowKit

theorem Tab.below {w w' : World} {g off cap B : Nat} (h : Tab w g off cap) (hb : Below B w w') (hB : w.heap.size ≤ B) : Tab w' g off cap := by
  have hg : g < B := Nat.lt_of_lt_of_le (World.block_lt_of_cell? w _ (h.c0 0 (by omega))) hB
  have h0 : 1 < B := Nat.lt_of_lt_of_le (World.block_lt_of_cell? w _ h.var) hB
  exact ⟨(hb.cell (p := ⟨1, 0, none⟩) h0).trans h.var, fun k hk => (hb.cell (p := ⟨g, _, none⟩) hg).trans (h.c0 k hk), fun k hk => (hb.cell (p := ⟨g, _, none⟩) hg).trans (h.c1 k hk),
    fun k hk => (hb.cell (p := ⟨g, _, none⟩) hg).trans (h.c2 k hk), fun k hk => (hb.cell (p := ⟨g, _, none⟩) hg).trans (h.c3 k hk), fun k hk => (hb.cell (p := ⟨g, _, none⟩) hg).trans (h.c4 k hk)⟩
theorem Fr.iterAt {a w : World} {B : Nat} (h : Fr B a w) {k : Nat} (hB : B ≤ k) (hk : a.heap.size ≤ k) (s : ByteArray) (pos : Nat) : Fr B a (w.iterAt k s pos) := by
  refine ⟨Lib.below_iterAt h.1 hB s pos, fun i o h1 h2 h3 => ?_⟩
  have hi : i < a.heap.size := (Array.getElem?_eq_some_iff.1 h1).1
  rw [Lib.iterAt_other w k i s pos (by omega)]
  exact h.2 i o h1 h2 h3

/-- an iterator behind a call that was made in the world with the iterator moved on -/
theorem iter_kept {wr w2 : World} {IT : Nat} {s : ByteArray} {pos p2 : Nat} (hit : wr.heap[IT]? = some (.stringIter s pos)) (hf : Fr (wr.iterAt IT s p2).heap.size (wr.iterAt IT s p2) w2) : w2.heap[IT]? = some (.stringIter s p2) := by
  have hlt : IT < wr.heap.size := (Array.getElem?_eq_some_iff.1 hit).1
  rw [hf.1.block IT (by rw [Lib.iterAt_size]; exact hlt)]
  exact Lib.iterAt_heap wr IT s pos p2 hit
theorem fr_iter_call {w wr w2 : World} {IT B : Nat} {s : ByteArray} {p2 : Nat} (hfr : Fr B w wr) (hB : B ≤ IT) (hI : w.heap.size ≤ IT) (hBw : B ≤ w.heap.size) (hf : Fr (wr.iterAt IT s p2).heap.size (wr.iterAt IT s p2) w2) : Fr B w w2 :=
  (hfr.iterAt hB hI s p2).trans (hf.mono (by rw [Lib.iterAt_size]; exact Nat.le_trans hBw hfr.size))

end Go.Proofs.YtkbbkhdbigjngaaGreatDoor
