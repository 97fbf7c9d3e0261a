/-
  slices.Clone: a row of texts, of types; no classes.
-/
import Derived.Test.YtbioickfookjeaaGreatDoorSput
import Derived.Laws.Cover3
namespace Go.Proofs.YtbioickfookjeaaGreatDoor
open Go.RowKit

theorem eql_nil (w : World) (t e : TypeId) (a : Option Addr) (l c : Nat) (h : Tryz.prog.underlying t = some (.slice e)) : (binOp .eql t (.slice a l c) (.slice none 0 0)).run Tryz.prog w = .ok (.bool a.isNone) w := by
  simp only [binOp]
  simp [run_equal_slice_nil w t e a l c h]
/-- 'append' onto a slice that has no room, whatever the elements' size -/
theorem run_append_empty (w : World) (S : Nat → Prop) (t e tx ty : TypeId) (z : Value) (sz bytes : Nat) (hi : (Tryz.prog.info? e).map (fun i => (i.zero, i.size, i.bytes)) = some (some z, sz, bytes)) (ht : Tryz.prog.underlying t = some (.slice e)) (hzs : z.cells.size = sz)
    (g : Nat) (hg : w.heap[g]? = some (.cells #[] e (0, 0))) (hS : S g) (hSn : S w.heap.size) (x : Value) (m : Nat) (news : List Value) (hs : Src Tryz.prog sz tx x m news w) (h63 : m ≤ maxLen) (hb : m * bytes ≤ 140737488355328) :
    ∃ a cap w', (Builtin.append_ #[t, tx] ty #[.slice (some ⟨g, 0, none⟩) 0 0, x]).run Tryz.prog w = .ok (.slice a m cap) w' ∧ Row w' S e sz (.slice a m cap) m news ∧ Ext w w' := by
  obtain ⟨i, hi0, hz, hsz, hby⟩ := info_parts hi
  have hsl : news.length = m * sz := hs.newsLen
  rw [← hsz] at hs
  by_cases hm : m = 0
  · subst hm
    have hn0 : news = [] := List.eq_nil_of_length_eq_zero (by simpa using hsl)
    subst hn0
    refine ⟨some ⟨g, 0, none⟩, 0, w, ?_, ⟨⟨by simp, .inr ⟨g, 0, #[], rfl, Nat.zero_le _, hg, Nat.le_refl _, Nat.zero_le _, by simp, by simp⟩⟩, fun k hk => ?_⟩, Ext.refl _⟩
    · rcases hs.kind with ⟨e', hk⟩ | hk <;> simp [Builtin.append_, run_underlying ht, run_underlying hk, sizeOf, typeInfo, hi0, hs.len, hs.cells, storeCells]
    · simp only [Value.ownBlock, Option.some.injEq] at hk
      exact hk ▸ hS
  · have h63' : ((0 + m : Nat) : Int) ≤ 9223372036854775807 := by unfold maxLen at h63; omega
    have hr := run_append_grow_src (P := Tryz.prog) w t tx ty e i z ht hi0 hz (some ⟨g, 0, none⟩) 0 0 [] (run_firstCells_some w.drew i.size 0 ⟨g, 0, none⟩ 0 0 [] (by simp) (by simp)) x m news hs (by omega) h63' (by rw [hby]; exact growslice_fits (by omega) (by rw [Nat.zero_add]; exact hb))
    simp only [Nat.zero_add, List.nil_append] at hr
    have hge := grownCap_ge w m 0 e
    refine ⟨_, _, _, hr, ⟨⟨hsl, .inr ⟨w.heap.size, _, _, rfl, Nat.zero_le _, heap_alloc_new w.drew _, hge, grownCap_le_maxLen w m 0 e h63, ?_, ?_⟩⟩, fun k hk => ?_⟩, (Ext.refl w).drew.alloc _⟩
    · simp only [Builtin.zeroCells, Array.size_append, List.size_toArray, hsl]
      rw [Array.size_map, Array.size_range, hzs, ← Nat.add_mul, Nat.add_sub_cancel' hge]
    · simp only [Array.toList_append]
      rw [List.take_append_of_le_length (by exact Nat.le_of_eq hsl.symm), List.take_of_length_le (by exact Nat.le_of_eq hsl)]
    · simp only [Value.ownBlock, Option.some.injEq] at hk
      exact hk ▸ hSn

set_option maxRecDepth 100000 in
set_option maxHeartbeats 1000000 in
theorem cloneS_any (w : World) (v : Value) (l : List ByteArray) (hs : Sl encS w v l) (hl : l.length ≤ 1000000000) :
    Calls Tryz.prog 199 #[v] w fun e w' => ∃ u, e = .returned u ∧ RowE 9 encS w' (fun k => w.heap.size ≤ k) u l ∧ Ext w w' := by
  obtain ⟨a, n, c, rfl, hn⟩ := hs.shape
  cases a with
  | none =>
    have hl0 : l = [] := by
      cases l with
      | nil => rfl
      | cons y t => obtain ⟨g, o, e, _⟩ := hs.at 0 (by simp); cases e
    subst hl0
    have hq : ∀ w, (binOp .eql 47 (.slice none n c) (.slice none 0 0)).run Tryz.prog w = .ok (.bool true) w := fun w => eql_nil w _ _ _ _ _ Tryz.underlying47
    go_enter Tryz.func199, Tryz.ntmps199
    go_wp2
    go_ret
    exact ⟨_, rfl, row_nil _ _ _ _, Ext.refl _⟩
  | some a =>
    obtain ⟨a2, c2, w2, hr, r2, x2⟩ := run_append_empty (w.alloc (.cells #[] 9)) (fun k => w.heap.size ≤ k) 47 9 47 47 _ 1 16 infoStr Tryz.underlying47 rfl w.heap.size (heap_alloc_new w _) (Nat.le_refl _) (by simp) _ _ _
      (srcV Tryz.underlying47 oneS (hs.ext ((Ext.refl w).alloc (.cells #[] 9)))) (by unfold maxLen; omega) (by omega)
    have hrh : Hid _ := hr
    clear hr
    have hq : ∀ w, (binOp .eql 47 (.slice (some a) n c) (.slice none 0 0)).run Tryz.prog w = .ok (.bool false) w := fun w => eql_nil w _ _ _ _ _ Tryz.underlying47
    go_enter Tryz.func199, Tryz.ntmps199
    go_wp2_with (at_builtin; refine Hid.out ?_)
    refine Lib.wpList_append_run _ rfl _ _ _ _ rfl _ _ rfl rfl _ _ hrh.out ?_
    go_wp2
    go_ret
    exact ⟨_, rfl, r2, ((Ext.refl w).alloc _).trans x2⟩
end Go.Proofs.YtbioickfookjeaaGreatDoor
