/-
  BoughRises: rows of numbers that change in place.
-/
import Derived.Test.YtkdfgjdencelkaaBprs
import Derived.Test.YtkdfgjdencelkaaBrt7
namespace Go.Proofs.Ytkdfgjdencelkaa
open Go.RowKit
section
variable {α : Type} {enc : α → Value} {e : TypeId}
/-- the beginning of a row is a row -/
theorem head_row {W : World} {S : Nat → Prop} {a : Option Addr} {n cap m : Nat} {l : List α} (h : RowE e enc W S (.slice a n cap) l) (hm : m ≤ l.length) : RowE e enc W S (.slice a m cap) (l.take m) := by
  have hl : (l.take m).length = m := by rw [List.length_take]; omega
  rcases h.1.2 with ⟨e9, h0⟩ | ⟨g, cap', cur, e9, h2, hg, h3, h4, h5, h6⟩
  · simp only [Value.slice.injEq] at e9
    obtain ⟨rfl, _, rfl⟩ := e9
    obtain rfl : m = 0 := by omega
    exact row_nil _ _ _ _
  · simp only [Value.slice.injEq] at e9
    obtain ⟨rfl, _, rfl⟩ := e9
    refine ⟨⟨by rw [List.length_map, Nat.mul_one], .inr ⟨g, cap, cur, by rw [hl], h2, hg, by rw [hl]; omega, h4, h5, ?_⟩⟩, fun k hk => h.2 k hk⟩
    rw [Nat.mul_one] at *
    rw [hl, List.map_take, ← h6, List.take_take, Nat.min_eq_left hm]
theorem own_slice (a : Option Addr) (n n' cap cap' : Nat) (g : Nat) : own (.slice a n cap) g ↔ own (.slice a n' cap') g := by
  cases a <;> exact Iff.rfl
end
/-- a number taken out of a row, in its own memory -/
theorem gdel {W : World} {m0 : Nat} {a : Option Addr} {n cap : Nat} {l : List Int64} (h : RowE 3 I6 W (fun k => m0 ≤ k) (.slice a n cap) l) (hm0 : m0 ≤ W.heap.size) (hn : l.length = n) (k : Nat) (hk : k < n) (hl : n ≤ 17592186044415) (ty : TypeId) (X : Option Addr) (hX : (if cap = k + 1 then a else a.map (fun x => x.add (k + 1))) = X) :
    ∃ a' cap' W', (Builtin.append_ #[48, 48] ty #[.slice a k cap, .slice X (n - (k + 1)) (cap - (k + 1))]).run Try.prog W = .ok (.slice a' (n - 1) cap') W' ∧ RowE 3 I6 W' (fun k => m0 ≤ k) (.slice a' (n - 1) cap') (l.take k ++ l.drop (k + 1)) ∧ Only (own (.slice a n cap)) W W' ∧ (∀ g, own (.slice a' (n - 1) cap') g → own (.slice a n cap) g ∨ W.heap.size ≤ g) := by
  have h1 := Row.min (head_row (m := k) h (by omega))
  have h2 := sl_dropG h.sl (k + 1) (by omega)
  rw [hX] at h2
  have hl1 : (l.take k).length = k := by rw [List.length_take]; omega
  have hl2 : (l.drop (k + 1)).length = n - (k + 1) := by rw [List.length_drop]; omega
  obtain ⟨W', a', cap', hr, r', o'⟩ := run_appendE infoI Try.underlying48 rfl W (own (.slice a k cap)) 48 ty _ (l.take k) h1 _ (n - (k + 1)) (l.drop (k + 1)) (by rw [← hl2]; exact srcV Try.underlying48 oneI h2) hl2.symm (by rw [hl1, hl2]; omega) (by decide)
  rw [hl1, show k + (n - (k + 1)) = n - 1 by omega] at hr r'
  have hup : ∀ g, own (.slice a' (n - 1) cap') g → own (.slice a n cap) g ∨ W.heap.size ≤ g := fun g hg => (r'.2 g hg).elim (fun h9 => .inl ((own_slice a k n cap cap g).1 h9)) .inr
  refine ⟨a', cap', W', hr, ⟨r'.1, fun g hg => (hup g hg).elim (fun h9 => h.2 g h9) (fun h9 => Nat.le_trans hm0 h9)⟩, o'.mono (fun g _ hg => (own_slice a k n cap cap g).1 hg), hup⟩
/-- a number put into a row -/
theorem gins {W : World} {m0 : Nat} {a : Option Addr} {n cap : Nat} {l : List Int64} (h : RowE 3 I6 W (fun k => m0 ≤ k) (.slice a n cap) l) (hm0 : m0 ≤ W.heap.size) (hn : l.length = n) (k : Nat) (hk : k ≤ n) (hl : n < 17592186044415) (ty ty' : TypeId) (X : Option Addr) (hX : (if cap = k then a else a.map (fun x => x.add k)) = X) (x : Int64) (z : Value) (hz : z = I6 x) (H : Nat) (hH : W.heap.size = H) :
    ∃ b1 p1 W2 b2 p2 W3, (Builtin.append_ #[48, 48] ty #[.slice (some ⟨H, 0, none⟩) 1 1, .slice X (n - k) (cap - k)]).run Try.prog (W.alloc (.cells #[z] 3)).drew = .ok (.slice b1 (1 + (n - k)) p1) W2 ∧
      (Builtin.append_ #[48, 48] ty' #[.slice a k cap, .slice b1 (1 + (n - k)) p1]).run Try.prog W2 = .ok (.slice b2 (n + 1) p2) W3 ∧ RowE 3 I6 W3 (fun k => m0 ≤ k) (.slice b2 (n + 1) p2) (l.take k ++ x :: l.drop k) ∧ Only (own (.slice a n cap)) W W3 ∧ (∀ g, own (.slice b2 (n + 1) p2) g → own (.slice a n cap) g ∨ W.heap.size ≤ g) := by
  subst hz hH
  have xa := ((Ext.refl W).alloc (.cells #[I6 x] 3)).drew
  have h0 : RowE 3 I6 (W.alloc (.cells #[I6 x] 3)).drew (fun g => g = W.heap.size) (.slice (some ⟨W.heap.size, 0, none⟩) 1 1) [x] := by
    refine ⟨⟨rfl, .inr ⟨W.heap.size, 1, #[I6 x], rfl, Nat.zero_le _, heap_alloc_new W _, Nat.le_refl _, by unfold maxLen; omega, rfl, rfl⟩⟩, fun g hg => ?_⟩
    simp only [Value.ownBlock, Option.some.injEq] at hg
    exact hg.symm
  have h2 := sl_dropG (h.sl.ext xa) k (by omega)
  rw [hX] at h2
  have hl1 : (l.take k).length = k := by rw [List.length_take]; omega
  have hl2 : (l.drop k).length = n - k := by rw [List.length_drop]; omega
  obtain ⟨W2, b1, p1, hr1, r1, o1⟩ := run_appendE infoI Try.underlying48 rfl _ (fun g => g = W.heap.size) 48 ty _ [x] h0 _ (n - k) (l.drop k) (by rw [← hl2]; exact srcV Try.underlying48 oneI h2) hl2.symm (by rw [hl2]; simp; omega) (by decide)
  simp only [List.length_singleton] at hr1 r1
  have x2 : Ext W W2 := Ext.then xa o1 (fun g hg => by rw [hg]; exact Nat.le_refl _)
  have h1 := Row.min (head_row (m := k) (h.ext x2) (by omega))
  have hl3 : ([x] ++ l.drop k).length = 1 + (n - k) := by rw [List.length_append, hl2]; rfl
  obtain ⟨W3, b2, p2, hr2, r2, o2⟩ := run_appendE infoI Try.underlying48 rfl W2 (own (.slice a k cap)) 48 ty' _ (l.take k) h1 _ (1 + (n - k)) ([x] ++ l.drop k) (by rw [← hl3]; exact srcV Try.underlying48 oneI r1.sl) hl3.symm (by rw [hl1, hl3]; omega) (by decide)
  rw [hl1, show k + (1 + (n - k)) = n + 1 by omega] at hr2 r2
  have hup : ∀ g, own (.slice b2 (n + 1) p2) g → own (.slice a n cap) g ∨ W.heap.size ≤ g := fun g hg => (r2.2 g hg).elim (fun h9 => .inl ((own_slice a k n cap cap g).1 h9)) (fun h9 => .inr (Nat.le_trans x2.size h9))
  exact ⟨b1, p1, W2, b2, p2, W3, hr1, hr2, ⟨r2.1, fun g hg => (hup g hg).elim (fun h9 => h.2 g h9) (fun h9 => Nat.le_trans hm0 h9)⟩, x2.only.then (o2.mono (fun g _ hg => (own_slice a k n cap cap g).1 hg)), hup⟩
/-- one number of a row written over -/
theorem gset {W : World} {S : Nat → Prop} {g o n cap : Nat} {l : List Int64} (h : RowE 3 I6 W S (.slice (some ⟨g, o, none⟩) n cap) l) (j : Nat) (v : Int64) : o = 0 ∧ W.frozen? ⟨g, o + j, none⟩ = false ∧ RowE 3 I6 (W.setCell ⟨g, o + j, none⟩ (I6 v)) S (.slice (some ⟨g, o, none⟩) n cap) (l.set j v) ∧ Only (own (.slice (some ⟨g, o, none⟩) n cap)) W (W.setCell ⟨g, o + j, none⟩ (I6 v)) := by
  rcases h.1.2 with ⟨e, _⟩ | ⟨g', cap', cur, e, h2, hg, h3, h4, h5, h6⟩
  · cases e
  · simp only [Value.slice.injEq, Option.some.injEq, Addr.mk.injEq] at e
    obtain ⟨⟨rfl, rfl, _⟩, rfl, rfl⟩ := e
    refine ⟨rfl, frozen_of_row _ _ _ _ _ hg, ⟨⟨by simp, .inr ⟨g, cap, cur.setIfInBounds (0 + j) (I6 v), by simp, h2, heap_setCell_at W g (0 + j) (I6 v) _ _ _ hg, by simpa using h3, h4, by simpa using h5, ?_⟩⟩, fun k hk => h.2 k hk⟩, (Only.refl (own (.slice (some ⟨g, 0, none⟩) l.length cap)) W).setCell (p := ⟨g, 0 + j, none⟩) (.inl rfl) _⟩
    rw [Nat.zero_add, List.length_set, Nat.mul_one] at *
    rw [Array.toList_setIfInBounds, List.take_set, h6, List.map_set]
end Go.Proofs.Ytkdfgjdencelkaa
