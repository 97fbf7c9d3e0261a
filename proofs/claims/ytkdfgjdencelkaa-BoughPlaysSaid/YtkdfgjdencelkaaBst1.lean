/-
  step answers true.
-/
import Derived.Test.YtkdfgjdencelkaaBplToBstp
import Derived.BigQuiet
import Derived.Deep.QuietTactic
import Derived.Deep.DeepCutAuto
namespace Go.Proofs.Ytkdfgjdencelkaa
open Go.RowKit Go.Shelf
attribute [local go_sem] Oper.semAt_some
section
set_option maxRecDepth 100000
set_option maxHeartbeats 8000000
theorem step_one (cb : Nat) (o : Int) (W : World) (B R : Nat) (t : Tr Int64 ByteArray) (L : List Pr) (u : Value) (h : PlS cb o W B R t L u) (i : Nat) (he : PlE o t L i) (hi : i ≤ 3999999999999) (d : Int) (k : Int64) (v : ByteArray) (nn : Int) (hd : d = 1 ∨ d = 2) :
    Calls Try.prog 12 #[.pointer (some ⟨B, 0, none⟩), .pointer (some ⟨R, 0, none⟩), .agg #[.int .i64 d, .int .i64 k.toInt, .string v, .int .i64 nn]] W fun e W' => ∃ t' L' u', e = .returned (.tuple #[kv0, .bool true]) ∧ PlS cb o W' B R t' L' u' ∧ PlE o t' L' (i + 1) ∧ PlF B R u u' W W' := by
  have mixed := (by kernel_rfl : Try.prog.follows Departure.mixedOrders = true)
  obtain ⟨Wa, hWa⟩ : ∃ Wa, Wa = ((W.alloc (.cells #[.int .i64 d, .int .i64 k.toInt, .string v, .int .i64 nn] 39)).alloc (.cells #[.nilFunc, .slice none 0 0] 35)).alloc (.cells #[.nilFunc, .slice none 0 0] 35) := ⟨_, rfl⟩
  have xa : Ext W Wa := by rw [hWa]; exact (((Ext.refl W).alloc _).alloc _).alloc _
  have sb : SpB Wa W.heap.size (W.heap.size + 1) (W.heap.size + 1 + 1) d k v nn := by
    rw [hWa]
    refine ⟨?_, ?_, ?_⟩
    · exact ext_block (((Ext.refl _).alloc _).alloc _) (heap_alloc_new W _)
    · have h9 := ext_block ((Ext.refl _).alloc (.cells #[.nilFunc, .slice none 0 0] 35)) (heap_alloc_new (W.alloc (.cells #[.int .i64 d, .int .i64 k.toInt, .string v, .int .i64 nn] 39)) (.cells #[.nilFunc, .slice none 0 0] 35))
      rwa [World.size_alloc] at h9
    · have h9 := heap_alloc_new ((W.alloc (.cells #[.int .i64 d, .int .i64 k.toInt, .string v, .int .i64 nn] 39)).alloc (.cells #[.nilFunc, .slice none 0 0] 35)) (.cells #[.nilFunc, .slice none 0 0] 35)
      rwa [World.size_alloc, World.size_alloc] at h9
  have pa := h.ext xa
  have hcbl := h.cbl
  have xah : Hid (Ext W Wa) := xa
  have heh : Hid (PlE o t L i) := he
  clear xa h
  obtain ⟨g5, hg5⟩ : ∃ g, g = W.heap.size := ⟨_, rfl⟩
  obtain ⟨g6, hg6⟩ : ∃ g, g = W.heap.size + 1 := ⟨_, rfl⟩
  obtain ⟨g8, hg8⟩ : ∃ g, g = W.heap.size + 1 + 1 := ⟨_, rfl⟩
  have hg6w : Hid (W.heap.size ≤ g6) := by rw [hg6]; exact Nat.le_succ _
  have hg6c : Hid (cb ≠ g6) := by rw [hg6]; show _ ≠ _; omega
  have hn5 : Hid (¬ g5 = g6) := by show ¬ _; omega
  have hn8 : Hid (¬ g8 = g6) := by show ¬ _; omega
  rw [← hg8, ← hg6, ← hg5] at sb
  rcases hd with rfl | rfl
  · have P1 := zPut (pa.ext (Ext.refl Wa).drew) he hi k v
    have Q1 := fun W1 (p1 : PlS cb o W1 B R (t.put (cmpI o) k v) L u) => yPut2 p1 he hi
    have sbd : Hid (SpB Wa.drew g5 g6 g8 1 k v nn) := sb.ext (Ext.refl Wa).drew
    have pad : Hid (PlS cb o Wa.drew B R t L u) := pa.ext (Ext.refl Wa).drew
    obtain ⟨q50, q51, q52, q53⟩ := four_cells sb.b5
    obtain ⟨q80, q81⟩ := two_cells sb.b8
    clear pa sb
    generalize (getL (cmpI o) k L).isSome = bb at *
    go_enter Try.func12, Try.ntmps12
    go_upto_region 2 with fail
    rw [← hWa, ← hg8, ← hg6, ← hg5]
    clear hWa hg8 hg6 hg5
    go_wp2_with fail
    go_region_held3 (fun W => W.cell? ⟨g5, 1, none⟩ = some (.int .i64 k.toInt) ∧ W.cell? ⟨g5, 2, none⟩ = some (.string v) ∧ W.cell? ⟨g8, 0, none⟩ = some .nilFunc ∧ W.cell? ⟨g8, 1, none⟩ = some (.slice none 0 0)) (go_keep) ((first | (go_at_call 47; refine P1.mono ?_; rintro _ W1 ⟨rfl, p1, f1⟩; have s1 := sbd.out.go pad.out f1; have y1 := (four_cells s1.b5).2.1; have y2 := (four_cells s1.b5).2.2.1; have y3 := (two_cells s1.b8).1; have y4 := (two_cells s1.b8).2; have Q2 := Q1 W1 p1; have p1h : Hid _ := p1; have f1h : Hid _ := f1; have s1h : Hid _ := s1; clear p1 f1 s1) | (go_at_call 52; refine Q2.mono ?_; rintro _ W2 ⟨rfl, u', p2, e2, f2⟩; have s2 := s1h.out.go p1h.out f2; have z1 := (four_cells s2.b5).2.1; have z2 := (four_cells s2.b5).2.2.1; have z3 := (two_cells s2.b8).1; have z4 := (two_cells s2.b8).2; have z5 := (two_cells s2.b6).1; have z6 := (two_cells s2.b6).2; have z7 := frozen_of_row W2 g6 0 _ _ s2.b6; have z8 := frozen_of_row W2 g6 1 _ _ s2.b6; have o6 := (set_kept rfl s2.b6 .nilFunc (.slice none 0 0)).2; have w1 := o6.cell z1 hn5.out; have w2 := o6.cell z2 hn5.out; have w3 := o6.cell z3 hn8.out; have w4 := o6.cell z4 hn8.out; clear o6; have fin : Hid _ := And.intro p2 (And.intro e2 (And.intro f2 s2)); clear p2 e2 f2 s2)))
    all_goals
      obtain ⟨p2, e2, f2, s2⟩ := fin.out
      obtain ⟨k6, o6⟩ := set_kept rfl s2.b6 .nilFunc (.slice none 0 0)
      have k7 := two_cells k6
      have k7h : Hid _ := k7
      have fin2 : Hid _ := And.intro (p2.goK s2.b6 hg6c.out o6) (And.intro e2 ((((PlF.ext (B := B) (R := R) (u := u) (xah.out.trans (Ext.refl Wa).drew)).trans f1h.out).trans f2).goK o6 hg6w.out))
      clear p2 e2 f2 s2 k6 o6 k7 fin
      go_wp2
      (try simp only [Exit.inBlock, Exit.then])
      refine bodyPost_ret (results_kept rfl _ _ g6 _ _ rfl k7h.out.1 k7h.out.2) rfl ?_
      exact ⟨_, _, u', rfl, fin2.out.1, fin2.out.2.1, fin2.out.2.2⟩
  · have P1 := zDel (pa.ext (Ext.refl Wa).drew) he hi k
    have Q1 := fun W1 (p1 : PlS cb o W1 B R (t.del (cmpI o) k) L u) => yDel2 p1 he hi
    have sbd : Hid (SpB Wa.drew g5 g6 g8 2 k v nn) := sb.ext (Ext.refl Wa).drew
    have pad : Hid (PlS cb o Wa.drew B R t L u) := pa.ext (Ext.refl Wa).drew
    obtain ⟨q50, q51, q52, q53⟩ := four_cells sb.b5
    obtain ⟨q80, q81⟩ := two_cells sb.b8
    clear pa sb
    generalize (getL (cmpI o) k L).isSome = bb at *
    go_enter Try.func12, Try.ntmps12
    go_upto_region 2 with fail
    rw [← hWa, ← hg8, ← hg6, ← hg5]
    clear hWa hg8 hg6 hg5
    go_wp2_with fail
    go_region_held3 (fun W => W.cell? ⟨g5, 1, none⟩ = some (.int .i64 k.toInt) ∧ W.cell? ⟨g8, 0, none⟩ = some .nilFunc ∧ W.cell? ⟨g8, 1, none⟩ = some (.slice none 0 0)) (go_keep) ((first | (go_at_call 48; refine P1.mono ?_; rintro _ W1 ⟨rfl, p1, f1⟩; have s1 := sbd.out.go pad.out f1; have y1 := (four_cells s1.b5).2.1; have y2 := (four_cells s1.b5).2.2.1; have y3 := (two_cells s1.b8).1; have y4 := (two_cells s1.b8).2; have Q2 := Q1 W1 p1; have p1h : Hid _ := p1; have f1h : Hid _ := f1; have s1h : Hid _ := s1; clear p1 f1 s1) | (go_at_call 53; refine Q2.mono ?_; rintro _ W2 ⟨rfl, u', p2, e2, f2⟩; have s2 := s1h.out.go p1h.out f2; have z1 := (four_cells s2.b5).2.1; have z2 := (four_cells s2.b5).2.2.1; have z3 := (two_cells s2.b8).1; have z4 := (two_cells s2.b8).2; have z5 := (two_cells s2.b6).1; have z6 := (two_cells s2.b6).2; have z7 := frozen_of_row W2 g6 0 _ _ s2.b6; have z8 := frozen_of_row W2 g6 1 _ _ s2.b6; have o6 := (set_kept rfl s2.b6 .nilFunc (.slice none 0 0)).2; have w1 := o6.cell z1 hn5.out; have w2 := o6.cell z2 hn5.out; have w3 := o6.cell z3 hn8.out; have w4 := o6.cell z4 hn8.out; clear o6; have fin : Hid _ := And.intro p2 (And.intro e2 (And.intro f2 s2)); clear p2 e2 f2 s2)))
    all_goals
      obtain ⟨p2, e2, f2, s2⟩ := fin.out
      obtain ⟨k6, o6⟩ := set_kept rfl s2.b6 .nilFunc (.slice none 0 0)
      have k7 := two_cells k6
      have k7h : Hid _ := k7
      have fin2 : Hid _ := And.intro (p2.goK s2.b6 hg6c.out o6) (And.intro e2 ((((PlF.ext (B := B) (R := R) (u := u) (xah.out.trans (Ext.refl Wa).drew)).trans f1h.out).trans f2).goK o6 hg6w.out))
      clear p2 e2 f2 s2 k6 o6 k7 fin
      go_wp2
      (try simp only [Exit.inBlock, Exit.then])
      refine bodyPost_ret (results_kept rfl _ _ g6 _ _ rfl k7h.out.1 k7h.out.2) rfl ?_
      exact ⟨_, _, u', rfl, fin2.out.1, fin2.out.2.1, fin2.out.2.2⟩
end
end Go.Proofs.Ytkdfgjdencelkaa
