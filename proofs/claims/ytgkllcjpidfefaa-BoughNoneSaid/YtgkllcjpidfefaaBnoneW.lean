/-
  BoughNone: what there is not tells zeros.
-/
import Derived.Test.YtgkllcjpidfefaaBalw
namespace Go.Proofs.Ytgkllcjpidfefaa
open Go.RowKit Go.Shelf
attribute [local go_sem] Oper.semAt_some
section
set_option maxRecDepth 100000
set_option maxHeartbeats 8000000
theorem eq_nilnil (w : World) : (binOp .eql 25 .nilFunc .nilFunc).run Try.prog w = .ok (.bool true) w := by
  have hu : Try.prog.underlying 25 = _ := Try.underlying25
  have h : ∀ d : Nat, (Op.equalIn (d + 1) 25 .nilFunc .nilFunc).run Try.prog w = .ok true w := fun d => by
    simp [Op.equalIn, run_underlying hu]
  simp only [binOp]
  simp [Op.equal, Op.maxDepth, h 9999]
theorem New_nil (w : World) : Calls Try.prog 8 #[.nilFunc] w fun e w' => e = .returned (.pointer none) ∧ w' = w := by
  have hn := eq_nilnil w
  go_enter Try.func8, Try.ntmps8
  go_wp2
  go_ret
  exact ⟨rfl, rfl⟩
theorem eq_nilg (fn : Fn) (a b : Array Value) (w : World) : (binOp .eql 31 (.func fn a b) .nilFunc).run Try.prog w = .ok (.bool false) w := by
  have hu : Try.prog.underlying 31 = _ := Try.underlying31
  have h : ∀ d : Nat, (Op.equalIn (d + 1) 31 (.func fn a b) .nilFunc).run Try.prog w = .ok false w := fun d => by
    simp [Op.equalIn, run_underlying hu]
  simp only [binOp]
  simp [Op.equal, Op.maxDepth, h 9999]
theorem BoughNone_walk (w : World) (k : Int64) (v : ByteArray) : Calls Try.prog 6 #[.int .i64 k.toInt, .string v] w fun e w' => e = .returned (.bool true) ∧ Ext w w' := by
  refine (callsIn_wide (n := 5)).1 ?_
  refine callsIn_of_wp_marks Try.func6 rfl trivial ?_ rfl
  simp only [Try.ntmps6, List.size_toArray, List.length_cons, List.length_nil, Nat.reduceAdd, Nat.reduceSub, Array.replicate_succ, Array.replicate_zero, List.push_toArray, List.append_toArray, List.nil_append, List.cons_append]
  gi_wp2_with fail
  have hr0 : Hid (Boxed (w.alloc (.cells #[.bool false] 4)) w.heap.size 4 (.bool false)) := Boxed.new w _ _
  have x0 : Hid (Ext w (w.alloc (.cells #[.bool false] 4))) := (Ext.refl w).alloc _
  refine ⟨trivial, ?_⟩
  gi_at_call 8
  generalize w.alloc (.cells #[.bool false] 4) = w0 at *
  obtain ⟨rb, hrb⟩ : ∃ n, Hid (n = w.heap.size) := ⟨_, rfl⟩
  rw [← hrb.out] at hr0 ⊢
  have hrl : Hid (rb < w0.heap.size) := hr0.out.lt
  refine (callsIn_wide.2 (New_nil w0)).mono ?_
  rintro _ w0 ⟨rfl, rfl⟩
  gi_wp2_with fail
  refine ⟨trivial, ?_⟩
  gi_at_call 43
  refine (callsIn_wide.2 (BS.Get_none w0 k)).mono ?_
  rintro _ w1 ⟨rfl, x1⟩
  have xx1 : Hid (Ext w0 w1) := x1
  clear x1
  simp only [BS.getO]
  gi_wp2_with fail
  refine ⟨trivial, ?_⟩
  gi_at_call 44
  refine (callsIn_wide.2 (BS.Nth_none w1 k.toInt)).mono ?_
  rintro _ w2 ⟨rfl, x2⟩
  have xx2 : Hid (Ext w0 w2) := xx1.out.trans x2
  clear x2 xx1
  simp only [BS.nthO]
  gi_wp2_with fail
  refine ⟨trivial, ?_⟩
  gi_at_call 45
  refine (callsIn_wide.2 (BS.From_none w2 k)).mono ?_
  rintro _ w3 ⟨f1, s1, t1, rfl, k1', h1', x3, _⟩
  have k1 : Hid (BS.WkAt w3 f1 s1 false t1) := k1'
  have h1 : Hid (BS.trs t1 = []) := h1'
  have xx3 : Hid (Ext w0 w3) := xx2.out.trans x3
  clear x3 xx2 k1' h1'
  gi_wp2_with fail
  refine ⟨trivial, ?_⟩
  gi_at_call 46
  refine (callsIn_wide.2 (BS.UpTo_none w3 k)).mono ?_
  rintro _ w4 ⟨f2, s2, t2, rfl, k2', h2', x4, _⟩
  have k1 : Hid (BS.WkAt w4 f1 s1 false t1) := k1.out.ext x4
  have k2 : Hid (BS.WkAt w4 f2 s2 true t2) := k2'
  have h2 : Hid (BS.trs t2 = []) := h2'
  have xx4 : Hid (Ext w0 w4) := xx3.out.trans x4
  clear x4 xx3 k2' h2'
  gi_wp2_with fail
  refine ⟨trivial, ?_⟩
  gi_at_call 14
  refine (callsIn_wide.2 (BS.All_none w4)).mono ?_
  rintro _ w5 ⟨f3, s3, t3, rfl, k3', h3', x5, _⟩
  have k1 : Hid (BS.WkAt w5 f1 s1 false t1) := k1.out.ext x5
  have k2 : Hid (BS.WkAt w5 f2 s2 true t2) := k2.out.ext x5
  have k3 : Hid (BS.WkAt w5 f3 s3 false t3) := k3'
  have h3 : Hid (BS.trs t3 = []) := h3'
  have xx5 : Hid (Ext w0 w5) := xx4.out.trans x5
  clear x5 xx4 k3' h3'
  gi_wp2_with fail
  have hsl : (w5.alloc (.cells #[BS.wkF f1 s1, BS.wkF f2 s2, BS.wkF f3 s3] 31)).heap[w5.heap.size]? = some (.cells #[BS.wkF f1 s1, BS.wkF f2 s2, BS.wkF f3 s3] 31 (0, 0)) := heap_alloc_new _ _
  have x6 : Ext w5 (w5.alloc (.cells #[BS.wkF f1 s1, BS.wkF f2 s2, BS.wkF f3 s3] 31)) := (Ext.refl w5).alloc _
  have k1 : Hid (BS.WkAt (w5.alloc (.cells #[BS.wkF f1 s1, BS.wkF f2 s2, BS.wkF f3 s3] 31)) f1 s1 false t1) := k1.out.ext x6
  have k2 : Hid (BS.WkAt (w5.alloc (.cells #[BS.wkF f1 s1, BS.wkF f2 s2, BS.wkF f3 s3] 31)) f2 s2 true t2) := k2.out.ext x6
  have k3 : Hid (BS.WkAt (w5.alloc (.cells #[BS.wkF f1 s1, BS.wkF f2 s2, BS.wkF f3 s3] 31)) f3 s3 false t3) := k3.out.ext x6
  have xx6 : Hid (Ext w0 (w5.alloc (.cells #[BS.wkF f1 s1, BS.wkF f2 s2, BS.wkF f3 s3] 31))) := xx5.out.trans x6
  clear xx5 x6
  refine wpIn_loop_rounds 4 ?_
  generalize w5.alloc (.cells #[BS.wkF f1 s1, BS.wkF f2 s2, BS.wkF f3 s3] 31) = w6 at *
  generalize w5.heap.size = sl at *
  have e0 : w6.cell? ⟨sl, 0, none⟩ = some (BS.wkF f1 s1) := cell_of_row _ _ 0 _ _ _ hsl
  have e1 : w6.cell? ⟨sl, 1, none⟩ = some (BS.wkF f2 s2) := cell_of_row _ _ 1 _ _ _ hsl
  have e2 : w6.cell? ⟨sl, 2, none⟩ = some (BS.wkF f3 s3) := cell_of_row _ _ 2 _ _ _ hsl
  clear hsl
  rw [roundsIn_succ]
  have hn1 := eq_nilg (.func 82) #[] #[.pointer (some ⟨f1, 0, none⟩), .pointer (some ⟨s1, 0, none⟩)]
  have hseq1 := BS.seq_any 4 (by omega) w6 f1 s1 false t1 k1.out (by rw [h1.out]; exact Nat.zero_le _)
  rw [h1.out] at hseq1
  gi_wp2_with fail
  refine wpIn_range_rel (n := 5) (gf := 82) (lb := #[.pointer (some ⟨f1, 0, none⟩), .pointer (some ⟨s1, 0, none⟩)]) rfl (enters_of Try.func82 (by kernel_rfl) rfl) hseq1
    (fun _ _ h => h.firm) (fun _ _ h => OwnW.ext h) (fun _ _ _ h k => h.trans k) (fun W l o o' h1 h2 => LeftG.put W l o o' h1 h2) (fun _ => rfl)
    (fun _ W => Ext w6 W) (fun _ _ _ => False) ⟨fun _ _ _ h o => BS.ext_own h o (Nat.le_refl _), fun _ _ _ _ o' hl _ _ h => BS.ext_put o' h hl⟩ (fun _ => ⟨fun _ _ _ h _ => h, fun _ _ _ _ _ _ _ _ h => h⟩) (Ext.refl _) ?a1 ?assign1 ?body1 ?done1 ?stop1
  case assign1 =>
    intro l x W K hK
    refine wpIn_skip ?_
    exact hK
  case stop1 => intro _ _ _ _ _ _ h; exact h.elim
  case body1 =>
    rintro l pre x W ⟨r, hr⟩
    simp [Tr.rest] at hr
  case done1 =>
    intro D1 W1 hD1 x1 hK1
    clear hseq1 hn1
    have e1 := x1.cell e1
    have e2 := x1.cell e2
    have k2 : Hid (BS.WkAt W1 f2 s2 true t2) := k2.out.ext x1
    have k3 : Hid (BS.WkAt W1 f3 s3 false t3) := k3.out.ext x1
    have hK1h : Hid (W1.heap[D1]? = some (.deferred (some []))) := hK1
    have hK1o : Hid (W1.heap[D1]? = some (.deferred (some []))) := hK1
    have y1 : Hid (Ext w0 W1) := xx6.out.trans x1
    have hD1h : Hid (w0.heap.size ≤ D1) := Nat.le_trans xx6.out.size hD1
    clear e0 x1 hK1 xx6 hD1 k1
    gi_wp2_with fail
    rw [roundsIn_succ]
    have hn2 := eq_nilg (.func 82) #[] #[.pointer (some ⟨f2, 0, none⟩), .pointer (some ⟨s2, 0, none⟩)]
    have hseq2 := BS.seq_any 4 (by omega) W1 f2 s2 true t2 k2.out (by rw [h2.out]; exact Nat.zero_le _)
    rw [h2.out] at hseq2
    gi_wp2_with fail
    refine wpIn_range_rel (n := 5) (gf := 82) (lb := #[.pointer (some ⟨f2, 0, none⟩), .pointer (some ⟨s2, 0, none⟩)]) rfl (enters_of Try.func82 (by kernel_rfl) rfl) hseq2
      (fun _ _ h => h.firm) (fun _ _ h => OwnW.ext h) (fun _ _ _ h k => h.trans k) (fun W l o o' h1 h2 => LeftG.put W l o o' h1 h2) (fun _ => rfl)
      (fun _ W => Ext W1 W) (fun _ _ _ => False) ⟨fun _ _ _ h o => BS.ext_own h o (Nat.le_refl _), fun _ _ _ _ o' hl _ _ h => BS.ext_put o' h hl⟩ (fun _ => ⟨fun _ _ _ h _ => h, fun _ _ _ _ _ _ _ _ h => h⟩) (Ext.refl _) ?a2 ?assign2 ?body2 ?done2 ?stop2
    case assign2 =>
      intro l x W K hK
      refine wpIn_skip ?_
      exact hK
    case stop2 => intro _ _ _ _ _ _ h; exact h.elim
    case body2 =>
      rintro l pre x W ⟨r, hr⟩
      simp [Tr.rest] at hr
    case done2 =>
      intro D2 W2 hD2 x2 hK2
      clear hseq2 hn2
      have e2 := x2.cell e2
      have k3 : Hid (BS.WkAt W2 f3 s3 false t3) := k3.out.ext x2
      have hK1h : Hid (W2.heap[D1]? = some (.deferred (some []))) := ext_block x2 hK1h.out
      have hK2h : Hid (W2.heap[D2]? = some (.deferred (some []))) := hK2
      have y2 : Hid (Ext w0 W2) := y1.out.trans x2
      have hD2h : Hid (w0.heap.size ≤ D2) := Nat.le_trans y1.out.size hD2
      have hD12 : Hid (D1 < D2) := by have := (Array.getElem?_eq_some_iff.1 hK1o.out).1; show _ < _; omega
      clear e1 x2 hK2 y1 hD2 k2
      gi_wp2_with fail
      rw [roundsIn_succ]
      have hn3 := eq_nilg (.func 82) #[] #[.pointer (some ⟨f3, 0, none⟩), .pointer (some ⟨s3, 0, none⟩)]
      have hseq3 := BS.seq_any 4 (by omega) W2 f3 s3 false t3 k3.out (by rw [h3.out]; exact Nat.zero_le _)
      rw [h3.out] at hseq3
      gi_wp2_with fail
      refine wpIn_range_rel (n := 5) (gf := 82) (lb := #[.pointer (some ⟨f3, 0, none⟩), .pointer (some ⟨s3, 0, none⟩)]) rfl (enters_of Try.func82 (by kernel_rfl) rfl) hseq3
        (fun _ _ h => h.firm) (fun _ _ h => OwnW.ext h) (fun _ _ _ h k => h.trans k) (fun W l o o' h1 h2 => LeftG.put W l o o' h1 h2) (fun _ => rfl)
        (fun _ W => Ext W2 W) (fun _ _ _ => False) ⟨fun _ _ _ h o => BS.ext_own h o (Nat.le_refl _), fun _ _ _ _ o' hl _ _ h => BS.ext_put o' h hl⟩ (fun _ => ⟨fun _ _ _ h _ => h, fun _ _ _ _ _ _ _ _ h => h⟩) (Ext.refl _) ?a3 ?assign3 ?body3 ?done3 ?stop3
      case assign3 =>
        intro l x W K hK
        refine wpIn_skip ?_
        exact hK
      case stop3 => intro _ _ _ _ _ _ h; exact h.elim
      case body3 =>
        rintro l pre x W ⟨r, hr⟩
        simp [Tr.rest] at hr
      case done3 =>
        intro D3 W3 hD3 x3 hK3
        clear hseq3 hn3
        have hK1h : Hid (W3.heap[D1]? = some (.deferred (some []))) := ext_block x3 hK1h.out
        have hD23 : Hid (D2 < D3) := by have := (Array.getElem?_eq_some_iff.1 hK2h.out).1; show _ < _; omega
        have hK2h : Hid (W3.heap[D2]? = some (.deferred (some []))) := ext_block x3 hK2h.out
        have hK3h : Hid (W3.heap[D3]? = some (.deferred (some []))) := hK3
        have y3 : Hid (Ext w0 W3) := y2.out.trans x3
        have hD3h : Hid (w0.heap.size ≤ D3) := Nat.le_trans y2.out.size hD3
        clear e2 x3 hK3 y2 hD3 k3
        gi_wp2_with fail
        rw [roundsIn_succ]
        gi_wp2_with fail
        refine ⟨trivial, ?_⟩
        gi_at_call 47
        refine (callsIn_wide.2 (BS.Put_none W3 k v)).mono ?_
        rintro _ W3 ⟨rfl, rfl⟩
        gi_wp2_with fail
        refine ⟨trivial, ?_⟩
        gi_at_call 48
        refine (callsIn_wide.2 (BS.Del_none W3 k)).mono ?_
        rintro _ W3 ⟨rfl, rfl⟩
        gi_wp2_with fail
        refine ⟨trivial, ?_⟩
        gi_at_call 16
        refine (callsIn_wide.2 (BS.Len_none W3)).mono ?_
        rintro _ W3 ⟨rfl, rfl⟩
        gi_wp2_with fail
        refine ⟨trivial, ?_⟩
        gi_at_call 49
        refine (callsIn_wide.2 (BS.Rank_none W3 k)).mono ?_
        rintro _ W4 ⟨rfl, z4⟩
        have z4h : Hid (Ext W3 W4) := z4
        clear z4
        gi_wp2_with fail
        refine ⟨trivial, ?_⟩
        gi_at_call 11
        refine (callsIn_wide.2 (alive_any W4)).mono ?_
        rintro _ W5 ⟨rfl, z5⟩
        have z : Ext W3 W5 := z4h.out.trans z5
        have hK1 := ext_block z hK1h.out
        have hK2 := ext_block z hK2h.out
        have hK3 := ext_block z hK3h.out
        have y5 : Ext w0 W5 := y3.out.trans z
        have r5 := ext_block y5 hr0.out
        have cR := (show Boxed W5 rb 4 (.bool false) from r5).cell
        have fR := (show Boxed W5 rb 4 (.bool false) from r5).frozen
        have hKs : Hid (W5.heap[D1]? = some (.deferred (some [])) ∧ W5.heap[D2]? = some (.deferred (some [])) ∧ W5.heap[D3]? = some (.deferred (some [])) ∧ Ext w0 W5 ∧ Boxed W5 rb 4 (.bool false)) := ⟨hK1, hK2, hK3, y5, r5⟩
        clear z z5 z4h hK1 hK2 hK3 y5 r5 hK1h hK2h hK3h y3 hr0
        gi_wp2
        obtain ⟨q1, q2, q3, q4, q5⟩ := hKs.out
        have hrbl : rb < w0.heap.size := by
          have := x0.out.size
          have h9 := hrl.out
          exact h9
        have n1 := hD1h.out
        have n2 := hD2h.out
        have n3 := hD3h.out
        have n12 := hD12.out
        have n23 := hD23.out
        have s3 : (W5.setCell ⟨rb, 0, none⟩ (.bool true)).heap[D3]? = some (.deferred (some [])) := by rw [Below.heap_setCell _ _ _ _ (by simp; omega)]; exact q3
        have s2 : (W5.setCell ⟨rb, 0, none⟩ (.bool true)).heap[D2]? = some (.deferred (some [])) := by rw [Below.heap_setCell _ _ _ _ (by simp; omega)]; exact q2
        have s1 : (W5.setCell ⟨rb, 0, none⟩ (.bool true)).heap[D1]? = some (.deferred (some [])) := by rw [Below.heap_setCell _ _ _ _ (by simp; omega)]; exact q1
        refine ⟨by simp, .inl ⟨_, _, rfl, run_takeDeferred s3, ?_⟩⟩
        have u2 : ((W5.setCell ⟨rb, 0, none⟩ (.bool true)).putObj D3 (.deferred none)).heap[D2]? = some (.deferred (some [])) := (World.putObj_heap_other (show D2 ≠ D3 by omega)).trans s2
        have u1 : ((W5.setCell ⟨rb, 0, none⟩ (.bool true)).putObj D3 (.deferred none)).heap[D1]? = some (.deferred (some [])) := (World.putObj_heap_other (show D1 ≠ D3 by omega)).trans s1
        refine ⟨by simp, .inl ⟨_, _, rfl, run_takeDeferred u2, ?_⟩⟩
        have v1 : (((W5.setCell ⟨rb, 0, none⟩ (.bool true)).putObj D3 (.deferred none)).putObj D2 (.deferred none)).heap[D1]? = some (.deferred (some [])) := (World.putObj_heap_other (show D1 ≠ D2 by omega)).trans u1
        refine ⟨by simp, .inl ⟨_, _, rfl, run_takeDeferred v1, ?_⟩⟩
        have bS : Boxed (W5.setCell ⟨rb, 0, none⟩ (.bool true)) rb 4 (.bool true) := q5.set _
        have bT : Boxed ((((W5.setCell ⟨rb, 0, none⟩ (.bool true)).putObj D3 (.deferred none)).putObj D2 (.deferred none)).putObj D1 (.deferred none)) rb 4 (.bool true) := by
          have e1 := (World.putObj_heap_other (w := ((W5.setCell ⟨rb, 0, none⟩ (.bool true)).putObj D3 (.deferred none)).putObj D2 (.deferred none)) (r := D1) (k := rb) (o := .deferred none) (by omega))
          have e2 := (World.putObj_heap_other (w := (W5.setCell ⟨rb, 0, none⟩ (.bool true)).putObj D3 (.deferred none)) (r := D2) (k := rb) (o := .deferred none) (by omega))
          have e3 := (World.putObj_heap_other (w := W5.setCell ⟨rb, 0, none⟩ (.bool true)) (r := D3) (k := rb) (o := .deferred none) (by omega))
          exact ((e1.trans e2).trans e3).trans bS
        refine ⟨_, results_box rfl _ _ rb (.bool true) _ rfl bT.cell rfl rfl, rfl, ?_⟩
        have a0 : Ext w (W5.setCell ⟨rb, 0, none⟩ (.bool true)) := (x0.out.trans q4).setNew (p := ⟨rb, 0, none⟩) (by show _ ≤ rb; rw [hrb.out]; exact Nat.le_refl _) _
        have hw := x0.out.size
        exact BS.ext_put _ (BS.ext_put _ (BS.ext_put _ a0 (by omega)) (by omega)) (by omega)
end
end Go.Proofs.Ytgkllcjpidfefaa
