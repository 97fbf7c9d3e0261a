/-
  A node's calls: many, weight, with, level. (Made by gen/mk12.py out of g/Bno.)
-/
import Derived.Test.YtkdfgjdencelkaaBnd
import Derived.Test.YtkdfgjdencelkaaXapp
import Derived.Shelf.RegionOpen
import Derived.Shelf.RegionOpenPlain
import Derived.Deep.RegionHeld3
namespace Go.Proofs.Ytkdfgjdencelkaa.BI
open Go.RowKit Go.Shelf
abbrev Nd (w : World) (t : Tr Int64 Int64) (p : Value) : Prop := NdAt 119 I6 I6 w t p
section
set_option maxRecDepth 100000
theorem many_any (w : World) (t : Tr Int64 Int64) (p : Value) (h : Nd w t p) : Calls Try.prog 69 #[p] w fun e w' => e = .returned (.int .i64 (t.cnt : Nat)) ∧ w' = w := by
  cases t with
  | nil =>
    obtain rfl : p = .pointer none := h
    go_enter Try.func69, Try.ntmps69
    go_wp2
    go_ret
    exact ⟨rfl, rfl⟩
  | nd l k v r =>
    obtain ⟨b, pl, pr, rfl, hb, _, _⟩ := h
    obtain ⟨_, _, c2, _, _⟩ := node_cells hb
    show Calls _ _ _ _ (fun e w' => e = .returned (.int .i64 ((l.cnt + r.cnt + 1 : Nat) : Int)) ∧ w' = w)
    generalize l.cnt + r.cnt + 1 = n at *
    clear hb
    go_enter Try.func69, Try.ntmps69
    go_wp2
    go_ret
    exact ⟨rfl, rfl⟩
theorem weight_any (w : World) (t : Tr Int64 Int64) (p : Value) (h : Nd w t p) (hc : t.cnt ≤ 1000000000000000000) : Calls Try.prog 97 #[p] w fun e w' => e = .returned (.int .i64 (t.wt : Nat)) ∧ w' = w := by
  have h1 := many_any w t p h
  obtain ⟨q, rfl⟩ := h.shape
  unfold Tr.wt
  generalize t.cnt = n at *
  clear h
  go_enter Try.func97, Try.ntmps97
  go_wp2_with (go_at_call 69; refine h1.mono ?_; rintro _ _ ⟨rfl, rfl⟩)
  go_ret
  exact ⟨by go_num, rfl⟩
theorem sideOf_any (w : World) (c : Int) : Calls Try.prog 67 #[.int .i64 c] w fun e w' => e = .returned (.int .i64 (sd (!decide (c < 0)))) ∧ w' = w := by
  by_cases h : c < 0
  · rw [decide_eq_true h]
    go_enter Try.func67, Try.ntmps67
    go_wp2
    go_ret
    exact ⟨rfl, rfl⟩
  · rw [decide_eq_false h]
    go_enter Try.func67, Try.ntmps67
    go_wp2
    go_ret
    exact ⟨rfl, rfl⟩
theorem with_any (w : World) (t : Tr Int64 Int64) (b : Nat) (l r : Tr Int64 Int64) (k : Int64) (v : Int64) (ht : t = .nd l k v r) (h : Nd w t (.pointer (some ⟨b, 0, none⟩))) (s : Bool) (x y : Tr Int64 Int64) (px py : Value) (hx : Nd w x px) (hy : Nd w y py) (hc : x.cnt + y.cnt ≤ 1000000000000000000) :
    Calls Try.prog 96 #[.pointer (some ⟨b, 0, none⟩), .int .i64 (sd s), px, py] w fun e w' => ∃ g, e = .returned (.pointer (some ⟨g, 0, none⟩)) ∧ Nd w' (Tr.mk s k v x y) (.pointer (some ⟨g, 0, none⟩)) ∧ Ext w w' ∧ w.heap.size ≤ g := by
  subst ht
  have m1 := fun w1 (x1 : Ext w w1) => many_any w1 x px (hx.ext x1)
  have m2 := fun w1 (x1 : Ext w w1) => many_any w1 y py (hy.ext x1)
  obtain ⟨b', pl, pr, e, hb, _, _⟩ := h
  cases e
  obtain ⟨c0, c1, _, _, _⟩ := node_cells hb
  obtain ⟨qx, rfl⟩ := hx.shape
  obtain ⟨qy, rfl⟩ := hy.shape
  have hxh : Hid (Nd w x (.pointer qx)) := hx
  have hyh : Hid (Nd w y (.pointer qy)) := hy
  have hnh : Hid (∀ n m : Nat, n = x.cnt → m = y.cnt → ((n : Int) + m + 1 = ((x.cnt + y.cnt + 1 : Nat) : Int))) := fun n m h1 h2 => by subst h1 h2; omega
  obtain ⟨nx, hnx⟩ : ∃ n, x.cnt = n := ⟨_, rfl⟩
  obtain ⟨ny, hny⟩ : ∃ n, y.cnt = n := ⟨_, rfl⟩
  rw [hnx, hny] at hc
  rw [hnx] at m1
  rw [hny] at m2
  have hnxh : Hid (x.cnt = nx) := hnx
  have hnyh : Hid (y.cnt = ny) := hny
  clear hx hy hb hnx hny
  have mixed := (by kernel_rfl : Try.prog.follows Departure.mixedOrders = true)
  simp only [I6, I6] at c0 c1
  go_enter Try.func96, Try.ntmps96
  go_wp2_with fail
  go_region_held3 (fun W => W.cell? ⟨b, 0, none⟩ = some (.int .i64 (k).toInt) ∧ W.cell? ⟨b, 1, none⟩ = some (.int .i64 (v).toInt)) (go_keep) ((go_at_call 69; first | (with_reducible refine (m1 _ ((Ext.refl w).drew)).mono ?_; rintro _ _ ⟨rfl, rfl⟩) | (with_reducible refine (m2 _ ((Ext.refl w).drew)).mono ?_; rintro _ _ ⟨rfl, rfl⟩)))
  generalize hz : IntKind.i64.wrap (IntKind.i64.wrap ((nx : Int) + (ny : Int)) + 1) = Z at *
  have hzh : Hid (Z = ((x.cnt + y.cnt + 1 : Nat) : Int)) := by
    show _ = _
    rw [← hz, hnxh.out, hnyh.out]
    simp only [IntKind.wrap_i64]
    omega
  clear hz m1 m2
  obtain ⟨W1, hW1⟩ : ∃ W1, W1 = (w.alloc (Obj.cells #[.int .i64 (k).toInt, .int .i64 (v).toInt, Value.int IntKind.i64 Z, Value.pointer none, Value.pointer none] 119)).drew := ⟨_, rfl⟩
  have hb1 : W1.heap[w.heap.size]? = some (Obj.cells #[.int .i64 (k).toInt, .int .i64 (v).toInt, Value.int IntKind.i64 Z, Value.pointer none, Value.pointer none] 119 (0, 0)) := by rw [hW1]; exact heap_alloc_new _ _
  have x1 : Hid (Ext w W1) := by rw [hW1]; exact ((Ext.refl w).alloc _).drew
  rw [← hW1]
  obtain ⟨g, hg⟩ : ∃ g, g = w.heap.size := ⟨_, rfl⟩
  have hgh : Hid (g = w.heap.size) := hg
  rw [← hg] at hb1 ⊢
  clear hW1 hg
  obtain ⟨_, _, _, d3, d4⟩ := node_cells hb1
  have f3 := frozen_of_row W1 g 3 _ _ hb1
  have f4 := frozen_of_row W1 g 4 _ _ hb1
  have hb1h : Hid (W1.heap[g]? = some (Obj.cells #[.int .i64 (k).toInt, .int .i64 (v).toInt, Value.int IntKind.i64 Z, Value.pointer none, Value.pointer none] 119 (0, 0))) := hb1
  clear hb1 c0 c1
  have hw1 : IntKind.i64.wrap 1 = 1 := by decide
  have hw0 : IntKind.i64.wrap 0 = 0 := by decide
  cases s
  · simp only [sd, Bool.false_eq_true, if_false]
    go_wp2_with fail
    go_region_held3 (fun _ => True) (exact True.intro) ((fail))
    go_wp2
    go_ret
    have hb2 := heap_setCell_at _ g 4 (.pointer qy) _ _ _ (heap_setCell_at W1 g 3 (.pointer qx) _ _ _ hb1h.out)
    have x2 : Ext w ((W1.setCell ⟨g, 3, none⟩ (.pointer qx)).setCell ⟨g, 4, none⟩ (.pointer qy)).drew := ((x1.out.setNew (by show _ ≤ g; rw [hgh.out]; exact Nat.le_refl _) _).setNew (by show _ ≤ g; rw [hgh.out]; exact Nat.le_refl _) _).drew
    exact ⟨g, rfl, NdAt.new (w := w) hb2 hzh.out hxh.out hyh.out x2, x2, by rw [hgh.out]; exact Nat.le_refl _⟩
  · simp only [sd, if_true]
    go_wp2_with fail
    go_region_held3 (fun _ => True) (exact True.intro) ((fail))
    go_wp2
    go_ret
    have hb2 := heap_setCell_at _ g 3 (.pointer qy) _ _ _ (heap_setCell_at W1 g 4 (.pointer qx) _ _ _ hb1h.out)
    have x2 : Ext w ((W1.setCell ⟨g, 4, none⟩ (.pointer qx)).setCell ⟨g, 3, none⟩ (.pointer qy)).drew := ((x1.out.setNew (by show _ ≤ g; rw [hgh.out]; exact Nat.le_refl _) _).setNew (by show _ ≤ g; rw [hgh.out]; exact Nat.le_refl _) _).drew
    exact ⟨g, rfl, NdAt.new (w := w) hb2 (by rw [hzh.out]; congr 1; omega) hyh.out hxh.out x2, x2, by rw [hgh.out]; exact Nat.le_refl _⟩
end
end Go.Proofs.Ytkdfgjdencelkaa.BI
