/-
  From, UpTo, All: what they hand out. (Made by gen/mk12.py out of g/Bfr.)
-/
import Derived.Test.YtkdfgjdencelkaaBwkI
namespace Go.Proofs.Ytkdfgjdencelkaa.BI
open Go.RowKit Go.Shelf
section
set_option maxRecDepth 100000
set_option maxHeartbeats 2000000
theorem all1_any (w : World) (a : Int64) : Calls Try.prog 73 #[.int .i64 (a).toInt] w fun e w' => e = .returned (.bool false) ∧ w' = w := by
  go_enter Try.func73, Try.ntmps73
  go_wp2
  go_ret
  exact ⟨rfl, rfl⟩
/-- what the three answer -/
def HandO (w w' : World) (s : Bool) (l : List (Tr Int64 Int64)) (e : Ending) : Prop := ∃ fb sb st, e = .returned (wkF fb sb) ∧ WkAt w' fb sb s st ∧ trs st = l ∧ Ext w w' ∧ w.heap.size ≤ sb
theorem All_any (cb : Nat) (o : Int) (w : World) (B : Nat) (t : Tr Int64 Int64) (h : BgAt cb o w B t) (hcnt : t.cnt ≤ 17592186044415) : Calls Try.prog 34 #[.pointer (some ⟨B, 0, none⟩)] w fun e w' => HandO w w' false (Tr.chainSk false (fun _ => false) t) e := by
  obtain ⟨q, hB, hn, _⟩ := h
  have c1 : w.cell? ⟨B, 1, none⟩ = some (.pointer q) := cell_of_row _ _ 1 _ _ _ hB
  have N1 := nodes_any w B q c1
  have W1 := walk_all (fun _ => false) w t (fun _ w1 _ a => (all1_any w1 a).mono (by rintro _ _ ⟨rfl, rfl⟩; exact ⟨rfl, Ext.refl _⟩)) q hn hcnt false
  simp only [sd, Bool.false_eq_true, if_false] at W1
  clear hB hn c1 hcnt
  go_enter Try.func34, Try.ntmps34
  go_wp2_with fail
  go_at_call 72
  refine N1.mono ?_
  rintro _ w ⟨rfl, rfl⟩
  go_wp2_with fail
  go_at_call 71
  refine W1.mono ?_
  rintro _ w1 ⟨fb, sb, st, rfl, k1, k2, x1, z1⟩
  go_wp2
  go_ret
  exact ⟨fb, sb, st, rfl, k1, k2, x1, z1⟩
theorem All_none (w : World) : Calls Try.prog 34 #[.pointer none] w fun e w' => HandO w w' false [] e := by
  have N1 := nodes_none w
  have W1 := walk_all (fun _ => false) w .nil (fun h => absurd rfl h) none rfl (by simp [Tr.cnt]) false
  simp only [sd, Bool.false_eq_true, if_false] at W1
  go_enter Try.func34, Try.ntmps34
  go_wp2_with fail
  go_at_call 72
  refine N1.mono ?_
  rintro _ w ⟨rfl, rfl⟩
  go_wp2_with fail
  go_at_call 71
  refine W1.mono ?_
  rintro _ w1 ⟨fb, sb, st, rfl, k1, k2, x1, z1⟩
  go_wp2
  go_ret
  exact ⟨fb, sb, st, rfl, k1, k2, x1, z1⟩
theorem from1_any (cb : Nat) (o : Int) (w : World) (b1 b2 B : Nat) (k a : Int64) (c1 : w.cell? ⟨b1, 0, none⟩ = some (.pointer (some ⟨B, 0, none⟩))) (c2 : w.cell? ⟨b2, 0, none⟩ = some (.int .i64 (k).toInt)) (c3 : w.cell? ⟨B, 0, none⟩ = some (.func (.func 50) #[] #[.pointer (some ⟨cb, 0, none⟩)])) (hcp : CP cb o w) :
    Calls Try.prog 74 #[.int .i64 (a).toInt, .pointer (some ⟨b1, 0, none⟩), .pointer (some ⟨b2, 0, none⟩)] w fun e w' => e = .returned (.bool (decide ((cmpI o) a k < 0))) ∧ Ext w w' := by
  have hcm := cmp_any cb o w.drew (CP.ext hcp (Ext.refl w).drew) a k
  generalize (cmpI o) a k = c at *
  clear hcp
  go_enter Try.func74, Try.ntmps74
  go_wp2_with fail
  go_region_held3 (fun W => W.cell? ⟨b1, 0, none⟩ = some (.pointer (some ⟨B, 0, none⟩)) ∧ W.cell? ⟨b2, 0, none⟩ = some (.int .i64 (k).toInt) ∧ W.cell? ⟨B, 0, none⟩ = some (.func (.func 50) #[] #[.pointer (some ⟨cb, 0, none⟩)])) (go_keep) ((go_at_call 50; refine hcm.mono ?_; rintro _ _ ⟨rfl, rfl⟩))
  all_goals go_wp2
  all_goals go_ret
  all_goals exact ⟨rfl, (Ext.refl w).drew⟩
theorem From_any (cb : Nat) (o : Int) (w : World) (B : Nat) (t : Tr Int64 Int64) (h : BgAt cb o w B t) (k : Int64) (hcnt : t.cnt ≤ 17592186044415) : Calls Try.prog 38 #[.pointer (some ⟨B, 0, none⟩), .int .i64 (k).toInt] w fun e w' => HandO w w' false (Tr.chainSk false (fun a => decide ((cmpI o) a k < 0)) t) e := by
  obtain ⟨w2, hw2⟩ : ∃ W, W = (w.alloc (.cells #[.pointer (some ⟨B, 0, none⟩)] 64)).alloc (.cells #[.int .i64 (k).toInt] 3) := ⟨_, rfl⟩
  have x2 : Hid (Ext w w2) := by rw [hw2]; exact ((Ext.refl w).alloc _).alloc _
  have h1 : Boxed w2 w.heap.size 64 (.pointer (some ⟨B, 0, none⟩)) := by rw [hw2]; exact (Boxed.new w _ _).alloc _
  have h2 : Boxed w2 (w.heap.size + 1) 3 (.int .i64 (k).toInt) := by
    rw [hw2]
    have h := Boxed.new (w.alloc (.cells #[.pointer (some ⟨B, 0, none⟩)] 64)) 3 (.int .i64 (k).toInt)
    rwa [World.size_alloc] at h
  obtain ⟨q, hB, hn, hcp⟩ := h.ext x2.out
  have c0 : w2.cell? ⟨B, 0, none⟩ = some (.func (.func 50) #[] #[.pointer (some ⟨cb, 0, none⟩)]) := cell_of_row _ _ 0 _ _ _ hB
  have c1 : w2.cell? ⟨B, 1, none⟩ = some (.pointer q) := cell_of_row _ _ 1 _ _ _ hB
  have N1 := nodes_any w2 B q c1
  have W1 := walk_from w.heap.size (w.heap.size + 1) (fun a => decide ((cmpI o) a k < 0)) w2 t (fun _ w3 x3 a => from1_any cb o w3 w.heap.size (w.heap.size + 1) B k a (x3.cell h1.cell) (x3.cell h2.cell) (x3.cell c0) (CP.ext hcp x3)) q hn hcnt false
  simp only [sd, Bool.false_eq_true, if_false] at W1
  have c9 := h1.cell
  clear hB hn c0 c1 hcnt h h1 h2 hcp
  go_enter Try.func38, Try.ntmps38
  rw [hw2] at c9 N1
  go_wp2_with fail
  go_at_call 72
  refine N1.mono ?_
  rintro _ w3 ⟨rfl, hw3⟩
  rw [← hw2] at hw3
  subst hw3
  clear c9 N1 hw2
  go_wp2_with fail
  go_at_call 71
  refine W1.mono ?_
  rintro _ w4 ⟨fb, sb, st, rfl, k1, k2, x4, z4⟩
  go_wp2
  go_ret
  exact ⟨fb, sb, st, rfl, k1, k2, x2.out.trans x4, Nat.le_trans x2.out.size z4⟩
theorem From_none (w : World) (k : Int64) : Calls Try.prog 38 #[.pointer none, .int .i64 (k).toInt] w fun e w' => HandO w w' false [] e := by
  obtain ⟨w2, hw2⟩ : ∃ W, W = (w.alloc (.cells #[.pointer none] 64)).alloc (.cells #[.int .i64 (k).toInt] 3) := ⟨_, rfl⟩
  have x2 : Hid (Ext w w2) := by rw [hw2]; exact ((Ext.refl w).alloc _).alloc _
  have h1 : Boxed w2 w.heap.size 64 (.pointer none) := by rw [hw2]; exact (Boxed.new w _ _).alloc _
  have N1 := nodes_none w2
  have W1 := walk_from w.heap.size (w.heap.size + 1) (fun _ => false) w2 .nil (fun h => absurd rfl h) none rfl (by simp [Tr.cnt]) false
  simp only [sd, Bool.false_eq_true, if_false] at W1
  have c9 := h1.cell
  clear h1
  go_enter Try.func38, Try.ntmps38
  rw [hw2] at c9 N1
  go_wp2_with fail
  go_at_call 72
  refine N1.mono ?_
  rintro _ w3 ⟨rfl, hw3⟩
  rw [← hw2] at hw3
  subst hw3
  clear c9 N1 hw2
  go_wp2_with fail
  go_at_call 71
  refine W1.mono ?_
  rintro _ w4 ⟨fb, sb, st, rfl, k1, k2, x4, z4⟩
  go_wp2
  go_ret
  exact ⟨fb, sb, st, rfl, k1, k2, x2.out.trans x4, Nat.le_trans x2.out.size z4⟩
theorem upto1_any (cb : Nat) (o : Int) (w : World) (b1 b2 B : Nat) (k a : Int64) (c1 : w.cell? ⟨b1, 0, none⟩ = some (.pointer (some ⟨B, 0, none⟩))) (c2 : w.cell? ⟨b2, 0, none⟩ = some (.int .i64 (k).toInt)) (c3 : w.cell? ⟨B, 0, none⟩ = some (.func (.func 50) #[] #[.pointer (some ⟨cb, 0, none⟩)])) (hcp : CP cb o w) :
    Calls Try.prog 75 #[.int .i64 (a).toInt, .pointer (some ⟨b1, 0, none⟩), .pointer (some ⟨b2, 0, none⟩)] w fun e w' => e = .returned (.bool (decide (0 < (cmpI o) a k))) ∧ Ext w w' := by
  have hcm := cmp_any cb o w.drew (CP.ext hcp (Ext.refl w).drew) a k
  generalize (cmpI o) a k = c at *
  clear hcp
  go_enter Try.func75, Try.ntmps75
  go_wp2_with fail
  go_region_held3 (fun W => W.cell? ⟨b1, 0, none⟩ = some (.pointer (some ⟨B, 0, none⟩)) ∧ W.cell? ⟨b2, 0, none⟩ = some (.int .i64 (k).toInt) ∧ W.cell? ⟨B, 0, none⟩ = some (.func (.func 50) #[] #[.pointer (some ⟨cb, 0, none⟩)])) (go_keep) ((go_at_call 50; refine hcm.mono ?_; rintro _ _ ⟨rfl, rfl⟩))
  all_goals go_wp2
  all_goals go_ret
  all_goals exact ⟨rfl, (Ext.refl w).drew⟩
theorem UpTo_any (cb : Nat) (o : Int) (w : World) (B : Nat) (t : Tr Int64 Int64) (h : BgAt cb o w B t) (k : Int64) (hcnt : t.cnt ≤ 17592186044415) : Calls Try.prog 39 #[.pointer (some ⟨B, 0, none⟩), .int .i64 (k).toInt] w fun e w' => HandO w w' true (Tr.chainSk true (fun a => decide (0 < (cmpI o) a k)) t) e := by
  obtain ⟨w2, hw2⟩ : ∃ W, W = (w.alloc (.cells #[.pointer (some ⟨B, 0, none⟩)] 64)).alloc (.cells #[.int .i64 (k).toInt] 3) := ⟨_, rfl⟩
  have x2 : Hid (Ext w w2) := by rw [hw2]; exact ((Ext.refl w).alloc _).alloc _
  have h1 : Boxed w2 w.heap.size 64 (.pointer (some ⟨B, 0, none⟩)) := by rw [hw2]; exact (Boxed.new w _ _).alloc _
  have h2 : Boxed w2 (w.heap.size + 1) 3 (.int .i64 (k).toInt) := by
    rw [hw2]
    have h := Boxed.new (w.alloc (.cells #[.pointer (some ⟨B, 0, none⟩)] 64)) 3 (.int .i64 (k).toInt)
    rwa [World.size_alloc] at h
  obtain ⟨q, hB, hn, hcp⟩ := h.ext x2.out
  have c0 : w2.cell? ⟨B, 0, none⟩ = some (.func (.func 50) #[] #[.pointer (some ⟨cb, 0, none⟩)]) := cell_of_row _ _ 0 _ _ _ hB
  have c1 : w2.cell? ⟨B, 1, none⟩ = some (.pointer q) := cell_of_row _ _ 1 _ _ _ hB
  have N1 := nodes_any w2 B q c1
  have W1 := walk_upto w.heap.size (w.heap.size + 1) (fun a => decide (0 < (cmpI o) a k)) w2 t (fun _ w3 x3 a => upto1_any cb o w3 w.heap.size (w.heap.size + 1) B k a (x3.cell h1.cell) (x3.cell h2.cell) (x3.cell c0) (CP.ext hcp x3)) q hn hcnt true
  simp only [sd, if_true] at W1
  have c9 := h1.cell
  clear hB hn c0 c1 hcnt h h1 h2 hcp
  go_enter Try.func39, Try.ntmps39
  rw [hw2] at c9 N1
  go_wp2_with fail
  go_at_call 72
  refine N1.mono ?_
  rintro _ w3 ⟨rfl, hw3⟩
  rw [← hw2] at hw3
  subst hw3
  clear c9 N1 hw2
  go_wp2_with fail
  go_at_call 71
  refine W1.mono ?_
  rintro _ w4 ⟨fb, sb, st, rfl, k1, k2, x4, z4⟩
  go_wp2
  go_ret
  exact ⟨fb, sb, st, rfl, k1, k2, x2.out.trans x4, Nat.le_trans x2.out.size z4⟩
theorem UpTo_none (w : World) (k : Int64) : Calls Try.prog 39 #[.pointer none, .int .i64 (k).toInt] w fun e w' => HandO w w' true [] e := by
  obtain ⟨w2, hw2⟩ : ∃ W, W = (w.alloc (.cells #[.pointer none] 64)).alloc (.cells #[.int .i64 (k).toInt] 3) := ⟨_, rfl⟩
  have x2 : Hid (Ext w w2) := by rw [hw2]; exact ((Ext.refl w).alloc _).alloc _
  have h1 : Boxed w2 w.heap.size 64 (.pointer none) := by rw [hw2]; exact (Boxed.new w _ _).alloc _
  have N1 := nodes_none w2
  have W1 := walk_upto w.heap.size (w.heap.size + 1) (fun _ => false) w2 .nil (fun h => absurd rfl h) none rfl (by simp [Tr.cnt]) true
  simp only [sd, if_true] at W1
  have c9 := h1.cell
  clear h1
  go_enter Try.func39, Try.ntmps39
  rw [hw2] at c9 N1
  go_wp2_with fail
  go_at_call 72
  refine N1.mono ?_
  rintro _ w3 ⟨rfl, hw3⟩
  rw [← hw2] at hw3
  subst hw3
  clear c9 N1 hw2
  go_wp2_with fail
  go_at_call 71
  refine W1.mono ?_
  rintro _ w4 ⟨fb, sb, st, rfl, k1, k2, x4, z4⟩
  go_wp2
  go_ret
  exact ⟨fb, sb, st, rfl, k1, k2, x2.out.trans x4, Nat.le_trans x2.out.size z4⟩
end
end Go.Proofs.Ytkdfgjdencelkaa.BI
