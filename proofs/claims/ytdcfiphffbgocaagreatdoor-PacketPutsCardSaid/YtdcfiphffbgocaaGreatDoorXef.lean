/-
  Rows of bytes that are written over, byte by byte.
-/
import Derived.Test.YtdcfiphffbgocaaGreatDoorQI
namespace Go.Proofs.YtdcfiphffbgocaaGreatDoor
open Go.RowKit Go.Shelf

def fillL (i : Nat) (v : UInt8) (l : List UInt8) : List UInt8 := List.replicate i v ++ l.drop i
theorem fillL_len {i : Nat} {v : UInt8} {l : List UInt8} (h : i ≤ l.length) : (fillL i v l).length = l.length := by simp [fillL]; omega
theorem fillL_set {i : Nat} {v : UInt8} {l : List UInt8} (h : i < l.length) : (fillL i v l).set i v = fillL (i + 1) v l := by
  unfold fillL
  rw [List.set_append_right _ _ (by simp), List.length_replicate, Nat.sub_self, List.drop_eq_getElem_cons h, List.set_cons_zero, List.replicate_succ', List.append_assoc]
  rfl
theorem fillL_end (v : UInt8) (l : List UInt8) : fillL l.length v l = List.replicate l.length v := by simp [fillL]
theorem rowB_pos {w : World} {S : Nat → Prop} {a : Option Addr} {n c : Nat} {l : List UInt8} (h : RowB w S (.slice a n c) l) (hp : 0 < l.length) : ∃ g, a = some ⟨g, 0, none⟩ := by
  rcases h.1.2 with ⟨e, h0⟩ | ⟨g, cap, cur, e, _⟩
  · omega
  · simp only [Value.slice.injEq] at e; exact ⟨g, e.1⟩
theorem rowB_set {W : World} {S : Nat → Prop} {g n cap : Nat} {l : List UInt8} (h : RowB W S (.slice (some ⟨g, 0, none⟩) n cap) l) (j : Nat) (v : UInt8) :
    W.frozen? ⟨g, j, none⟩ = false ∧ RowB (W.setCell ⟨g, j, none⟩ (.int .u8 v.toNat)) S (.slice (some ⟨g, 0, none⟩) n cap) (l.set j v) ∧ Only (own (.slice (some ⟨g, 0, none⟩) n cap)) W (W.setCell ⟨g, j, none⟩ (.int .u8 v.toNat)) := by
  rcases h.1.2 with ⟨e, _⟩ | ⟨g', cap', cur, e, h2, hg, h3, h4, h5, h6⟩
  · cases e
  · simp only [Value.slice.injEq, Option.some.injEq, Addr.mk.injEq] at e
    obtain ⟨⟨rfl, -, -⟩, rfl, rfl⟩ := e
    refine ⟨by simp [World.frozen?, hg], ⟨⟨by simp, .inr ⟨g, cap, cur.setIfInBounds j (.int .u8 v.toNat), by simp, h2, heap_setCell_at W g j (.int .u8 v.toNat) _ _ _ hg, by simpa using h3, h4, by simpa using h5, ?_⟩⟩, fun k hk => h.2 k hk⟩, (Only.refl (own (.slice (some ⟨g, 0, none⟩) l.length cap)) W).setCell (p := ⟨g, j, none⟩) (.inl rfl) _⟩
    rw [List.length_set, Nat.mul_one] at *
    rw [Array.toList_setIfInBounds, List.take_set, h6, List.map_set]
    rfl
theorem rowB_cell {w : World} {S : Nat → Prop} {g n c : Nat} {l : List UInt8} (h : RowB w S (.slice (some ⟨g, 0, none⟩) n c) l) (j : Nat) (hj : j < l.length) : w.cell? ⟨g, j, none⟩ = some (.int .u8 l[j].toNat) := by
  rcases (RowB.sl h).cases with ⟨a, cap, e2, e, _⟩ | ⟨g', o, cap, hpos, e, hcap, hmax, hc⟩
  · rw [e2] at hj; simp at hj
  · simp only [Value.slice.injEq, Option.some.injEq, Addr.mk.injEq] at e
    obtain ⟨⟨rfl, rfl, -⟩, -, -⟩ := e
    have := hc j hj
    rw [Nat.zero_add] at this
    exact this
theorem rowB_rep {w : World} {S : Nat → Prop} {g n c m : Nat} {v : UInt8} (h : RowB w S (.slice (some ⟨g, 0, none⟩) n c) (List.replicate m v)) (j : Nat) (hj : j < m) : w.cell? ⟨g, j, none⟩ = some (.int .u8 v.toNat) := by
  have := rowB_cell h j (by simpa using hj)
  simpa using this
end Go.Proofs.YtdcfiphffbgocaaGreatDoor
