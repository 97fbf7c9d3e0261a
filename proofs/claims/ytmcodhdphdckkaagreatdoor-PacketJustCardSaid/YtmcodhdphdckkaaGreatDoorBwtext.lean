/-
  The contracts of New, Text, Flag, Bytes.
-/
import Derived.Test.YtmcodhdphdckkaaGreatDoorBwlay
import Derived.Lib.SliceRun
namespace Go.Proofs.YtmcodhdphdckkaaGreatDoor
open Go.RowKit Go.Shelf

set_option maxRecDepth 100000 in
set_option maxHeartbeats 1000000 in
theorem New_any (w : World) : Calls Tryz.prog 24 #[] w fun x w' => ∃ p, x = .returned p ∧ (∃ a, p = .pointer (some a)) ∧ WrAt w' (fun k => w.heap.size ≤ k) p ⟨[], []⟩ ∧ Ext w w' := by
  go_enter Tryz.func24, Tryz.ntmps24
  go_wp2
  go_ret
  refine ⟨_, rfl, ⟨_, rfl⟩, ⟨w.heap.size, _, _, rfl, Nat.le_refl _, heap_alloc_new w _, row_nil _ _ _ _, row_nil _ _ _ _⟩, (Ext.refl w).alloc _⟩

set_option maxRecDepth 100000 in
set_option maxHeartbeats 1000000 in
theorem WText_any (w : World) (S : Nat → Prop) (p : Value) (st : Wr) (c n : Int) (s : ByteArray) (h : WrAt w S p st) (h1 : st.laid.length ≤ 67108864) (h2 : st.opn.length ≤ 1000) (hs : s.size ≤ 140737488355328) :
    Calls Tryz.prog 28 #[p, .int .i8 c, .int .i64 n, .string s] w fun x w' => x = .returned (.int .i64 (layE st c n (byt s))) ∧ WrAt w' (Up S w.heap.size) p (layW st c n (byt s)) ∧ Only S w w' := by
  have hl := lay_any w S p st c n s h h1 h2 hs
  go_enter Tryz.func28, Tryz.ntmps28
  go_wp2_with (go_at_call 55; refine hl.mono ?_; rintro _ w1 ⟨rfl, hw1, ho1⟩)
  go_ret
  exact ⟨rfl, hw1, ho1⟩

set_option maxRecDepth 100000 in
set_option maxHeartbeats 1000000 in
theorem Clone_any (w : World) (S : Nat → Prop) (v : Value) (l : List UInt8) (h : RowB w S v l) (hl : l.length ≤ 140737488355328) :
    Calls Tryz.prog 64 #[v] w fun x w' => ∃ u, x = .returned u ∧ RowB w' (fun k => w.heap.size ≤ k) u l ∧ Ext w w' := by
  have q22 : ∀ (w : World) (a : Option Addr) (n c n' c' : Nat), (binOp .eql 22 (.slice a n c) (.slice none n' c')).run Tryz.prog w = .ok (.bool a.isNone) w := fun w a n c n' c' => Lib.run_eql_slice_nil w _ _ a n c n' c' Tryz.underlying22
  rcases h.1.2 with ⟨rfl, h0⟩ | ⟨g, cap, cur, rfl, _, hg, hnc, hcm, hcs, htk⟩
  · obtain rfl : l = [] := List.eq_nil_of_length_eq_zero h0
    go_enter Tryz.func64, Tryz.ntmps64
    go_wp2
    go_ret
    exact ⟨_, rfl, row_nil _ _ _ _, Ext.refl _⟩
  · obtain ⟨k, hk⟩ : ∃ k, l.length = k := ⟨_, rfl⟩
    have hsl := h.sl
    rw [hk] at hsl hnc ⊢
    have hslh : Hid (Sl w (.slice (some ⟨g, 0, none⟩) k cap) l) := hsl
    clear h htk hsl
    go_enter Tryz.func64, Tryz.ntmps64
    go_wp2_with (at_builtin; refine Hid.out ?_)
    have hx1 : Ext w (w.alloc (.cells #[] 5)) := (Ext.refl w).alloc _
    have hr1 : RowB (w.alloc (.cells #[] 5)) (fun k => w.heap.size ≤ k) (.slice (some ⟨w.heap.size, 0, none⟩) 0 0) [] :=
      ⟨⟨by simp, .inr ⟨w.heap.size, 0, #[], rfl, Nat.zero_le _, heap_alloc_new w _, Nat.le_refl _, Nat.zero_le _, by simp, by simp⟩⟩, fun k hk => by simp only [Value.ownBlock, Option.some.injEq] at hk; omega⟩
    have hsrc : Src Tryz.prog 1 22 (.slice (some ⟨g, 0, none⟩) k cap) k (l.map B8) (w.alloc (.cells #[] 5)) := by
      have h9 := src8v (hslh.out.ext hx1)
      rwa [hk] at h9
    obtain ⟨w9, a9, cap9, hr, hr9, ho9⟩ := run_append8 _ _ 22 22 _ [] hr1 _ k l hsrc hk.symm (by simp; omega)
    refine Lib.wpList_append_run _ rfl _ _ _ _ rfl _ _ rfl rfl _ _ hr ?_
    clear hr
    go_wp2
    go_ret
    refine ⟨_, rfl, hr9.to (by simp) (by simp) ?_, hx1.then ho9 (fun _ h => h)⟩
    rintro q (hq | hq)
    · exact hq
    · simp at hq; omega

/-- Bytes' error -/
def bytesE (st : Wr) : Nat := if st.opn = [] then 0 else 5
set_option maxRecDepth 100000 in
set_option maxHeartbeats 1000000 in
theorem Bytes_any (w : World) (S : Nat → Prop) (p : Value) (st : Wr) (h : WrAt w S p st) (h1 : st.laid.length ≤ 67108864) :
    Calls Tryz.prog 35 #[p] w fun x w' => ∃ u, x = .returned (.tuple #[u, .int .i64 (bytesE st)]) ∧ RowB w' (fun k => w.heap.size ≤ k) u (if st.opn = [] then st.laid else []) ∧ Ext w w' := by
  obtain ⟨g, v1, v2, rfl, hwv⟩ := h
  obtain ⟨c0, c1, f0, f1⟩ := wr_cells hwv.2.1
  have hcl := Clone_any w S v1 st.laid hwv.2.2.1 (by omega)
  have hv2 : ∃ a cap, v2 = .slice a st.opn.length cap := by
    rcases hwv.2.2.2.1.2 with ⟨e, hl⟩ | ⟨g', cap, cur, e, _⟩
    · exact ⟨none, 0, by rw [e]; simp at hl; simp [hl]⟩
    · exact ⟨some ⟨g', 0, none⟩, cap, by rw [e]; simp⟩
  obtain ⟨a2, cap2, rfl⟩ := hv2
  have hE : Hid (bytesE st = if st.opn = [] then 0 else 5) := rfl
  by_cases h0 : st.opn = []
  · rw [h0] at c1
    simp only [List.length_nil] at c1
    go_enter Tryz.func35, Tryz.ntmps35
    go_wp2_with (go_at_call 64; refine hcl.mono ?_; rintro _ w1 ⟨u, rfl, hu, hx⟩)
    go_ret2
    rw [hE.out, if_pos h0]
    exact ⟨_, rfl, hu, hx⟩
  · have hpos : 0 < st.opn.length := List.length_pos_iff.2 h0
    obtain ⟨k, hk⟩ : ∃ k, st.opn.length = k := ⟨_, rfl⟩
    rw [hk] at c1 hpos
    clear hcl
    go_enter Tryz.func35, Tryz.ntmps35
    go_wp2
    go_ret2
    rw [hE.out, if_neg h0]
    exact ⟨_, rfl, row_nil _ _ _ _, Ext.refl _⟩
end Go.Proofs.YtmcodhdphdckkaaGreatDoor
