/-
  step: Get, Rank, Nth, Len, nothing.
-/
import Derived.Test.YtkdfgjdencelkaaBplToBstp
import Derived.BigQuiet
import Derived.Deep.QuietTactic
import Derived.Deep.DeepCutAuto
namespace Go.Proofs.Ytkdfgjdencelkaa
open Go.RowKit Go.Shelf
attribute [local go_sem] Oper.semAt_some
section
set_option maxRecDepth 100000
set_option maxHeartbeats 8000000
theorem step_read (cb : Nat) (o : Int) (W : World) (B R : Nat) (t : Tr Int64 ByteArray) (L : List Pr) (u : Value) (h : PlS cb o W B R t L u) (i : Nat) (he : PlE o t L i) (hi : i ≤ 3999999999999) (d : Int) (k : Int64) (v : ByteArray) (nn : Int) (hn1 : -9223372036854775808 ≤ nn) (hn2 : nn ≤ 9223372036854775807) (hd : d = 3 ∨ d = 4 ∨ d = 5 ∨ d = 9 ∨ (d ≠ 1 ∧ d ≠ 2 ∧ d ≠ 3 ∧ d ≠ 4 ∧ d ≠ 5 ∧ d ≠ 6 ∧ d ≠ 7 ∧ d ≠ 8 ∧ d ≠ 9)) :
    Calls Try.prog 12 #[.pointer (some ⟨B, 0, none⟩), .pointer (some ⟨R, 0, none⟩), .agg #[.int .i64 d, .int .i64 k.toInt, .string v, .int .i64 nn]] W fun e W' => e = .returned (.tuple #[kv0, .bool true]) ∧ PlS cb o W' B R t L u ∧ PlF B R u u W W' := by
  have mixed := (by kernel_rfl : Try.prog.follows Departure.mixedOrders = true)
  obtain ⟨Wa, hWa⟩ : ∃ Wa, Wa = ((W.alloc (.cells #[.int .i64 d, .int .i64 k.toInt, .string v, .int .i64 nn] 39)).alloc (.cells #[.nilFunc, .slice none 0 0] 35)).alloc (.cells #[.nilFunc, .slice none 0 0] 35) := ⟨_, rfl⟩
  have xa : Ext W Wa := by rw [hWa]; exact (((Ext.refl W).alloc _).alloc _).alloc _
  have sb : SpB Wa W.heap.size (W.heap.size + 1) (W.heap.size + 1 + 1) d k v nn := by
    rw [hWa]
    refine ⟨?_, ?_, ?_⟩
    · exact ext_block (((Ext.refl _).alloc _).alloc _) (heap_alloc_new W _)
    · have h9 := ext_block ((Ext.refl _).alloc (.cells #[.nilFunc, .slice none 0 0] 35)) (heap_alloc_new (W.alloc (.cells #[.int .i64 d, .int .i64 k.toInt, .string v, .int .i64 nn] 39)) (.cells #[.nilFunc, .slice none 0 0] 35))
      rwa [World.size_alloc] at h9
    · have h9 := heap_alloc_new ((W.alloc (.cells #[.int .i64 d, .int .i64 k.toInt, .string v, .int .i64 nn] 39)).alloc (.cells #[.nilFunc, .slice none 0 0] 35)) (.cells #[.nilFunc, .slice none 0 0] 35)
      rwa [World.size_alloc, World.size_alloc] at h9
  have pa := h.ext xa
  have hcbl := h.cbl
  have xah : Hid (Ext W Wa) := xa
  have heh : Hid (PlE o t L i) := he
  clear xa h
  obtain ⟨g5, hg5⟩ : ∃ g, g = W.heap.size := ⟨_, rfl⟩
  obtain ⟨g6, hg6⟩ : ∃ g, g = W.heap.size + 1 := ⟨_, rfl⟩
  obtain ⟨g8, hg8⟩ : ∃ g, g = W.heap.size + 1 + 1 := ⟨_, rfl⟩
  have hg6w : Hid (W.heap.size ≤ g6) := by rw [hg6]; exact Nat.le_succ _
  have hg6c : Hid (cb ≠ g6) := by rw [hg6]; show _ ≠ _; omega
  have hn5 : Hid (¬ g5 = g6) := by show ¬ _; omega
  have hn8 : Hid (¬ g8 = g6) := by show ¬ _; omega
  rw [← hg8, ← hg6, ← hg5] at sb
  have sbh : Hid (SpB Wa g5 g6 g8 d k v nn) := sb
  have pah : Hid (PlS cb o Wa B R t L u) := pa
  have hln := he.len
  have hcn := he.cnt
  have hge := Tr.get_row (cmpI_ord o) k t (by rw [he.eq]; exact he.srt)
  rw [he.eq] at hge
  have hre := Tr.rank_row (cmpI_ord o) k t (by rw [he.eq]; exact he.srt)
  rw [he.eq] at hre
  clear sb pa
  rcases hd with rfl | rfl | rfl | rfl | hd
  · have G1 := BS.Get_any cb o Wa B t pah.out.bg k
    rw [hge] at G1
    have G2 := fun W1 (x : Ext Wa W1) => qGet W1 _ R o L (pah.out.ext x).rf k
    clear hge hre hln hcn heh
    have q5 := four_cells (sbh.out.ext (Ext.refl Wa)).b5
    have q8 := two_cells (sbh.out.ext (Ext.refl Wa)).b8
    have q6 := two_cells (sbh.out.ext (Ext.refl Wa)).b6
    obtain ⟨q50, q51, q52, q53⟩ := q5
    obtain ⟨q80, q81⟩ := q8
    obtain ⟨q60, q61⟩ := q6
    have qf0 := frozen_of_row Wa g6 0 _ _ (sbh.out.ext (Ext.refl Wa)).b6
    have qf1 := frozen_of_row Wa g6 1 _ _ (sbh.out.ext (Ext.refl Wa)).b6
    cases hgl : getL (cmpI o) k L with
    | none =>
      simp only [hgl, BS.getO] at G1 G2
      clear hgl
      go_enter Try.func12, Try.ntmps12
      go_upto_region 2 with fail
      rw [← hWa, ← hg8, ← hg6, ← hg5]
      clear hWa hg8 hg6 hg5
      go_wp2_with fail
      go_at_call 43
      refine G1.mono ?_
      rintro _ W1 ⟨rfl, x1⟩
      have G3 := G2 W1 x1
      have x1h : Hid (Ext Wa W1) := x1
      clear q50 q51 q52 q53 q80 q81 q60 q61 qf0 qf1 x1 G1 G2
      have r5 := four_cells (sbh.out.ext x1h.out).b5
      have r8 := two_cells (sbh.out.ext x1h.out).b8
      have r6 := two_cells (sbh.out.ext x1h.out).b6
      obtain ⟨r50, r51, r52, r53⟩ := r5
      obtain ⟨r80, r81⟩ := r8
      obtain ⟨r60, r61⟩ := r6
      have rf0 := frozen_of_row W1 g6 0 _ _ (sbh.out.ext x1h.out).b6
      have rf1 := frozen_of_row W1 g6 1 _ _ (sbh.out.ext x1h.out).b6
      go_wp2_with fail
      go_at_call 54
      refine G3.mono ?_
      rintro _ W2 ⟨rfl, x2⟩
      have x2h : Hid (Ext Wa W2) := x1h.out.trans x2.ext
      clear r50 r51 r52 r53 r80 r81 r60 r61 rf0 rf1 x2 G3
      have s5 := four_cells (sbh.out.ext x2h.out).b5
      have s8 := two_cells (sbh.out.ext x2h.out).b8
      have s6 := two_cells (sbh.out.ext x2h.out).b6
      obtain ⟨s50, s51, s52, s53⟩ := s5
      obtain ⟨s80, s81⟩ := s8
      obtain ⟨s60, s61⟩ := s6
      have sf0 := frozen_of_row W2 g6 0 _ _ (sbh.out.ext x2h.out).b6
      have sf1 := frozen_of_row W2 g6 1 _ _ (sbh.out.ext x2h.out).b6
      obtain ⟨k6, o6⟩ := set_kept rfl (sbh.out.ext x2h.out).b6 .nilFunc (.slice none 0 0)
      have k7 := two_cells k6
      have k7h : Hid _ := k7
      have fin2 : Hid _ := And.intro ((pah.out.ext x2h.out).goK (sbh.out.ext x2h.out).b6 hg6c.out o6) ((PlF.ext (B := B) (R := R) (u := u) (xah.out.trans x2h.out)).goK o6 hg6w.out)
      clear k6 o6 k7
      go_wp2
      (try simp only [Exit.inBlock, Exit.then])
      refine bodyPost_ret (results_kept rfl _ _ g6 _ _ rfl k7h.out.1 k7h.out.2) rfl ?_
      exact ⟨rfl, fin2.out.1, fin2.out.2⟩
    | some p =>
      simp only [hgl, BS.getO, S6] at G1 G2
      clear hgl
      go_enter Try.func12, Try.ntmps12
      go_upto_region 2 with fail
      rw [← hWa, ← hg8, ← hg6, ← hg5]
      clear hWa hg8 hg6 hg5
      go_wp2_with fail
      go_at_call 43
      refine G1.mono ?_
      rintro _ W1 ⟨rfl, x1⟩
      have G3 := G2 W1 x1
      have x1h : Hid (Ext Wa W1) := x1
      clear q50 q51 q52 q53 q80 q81 q60 q61 qf0 qf1 x1 G1 G2
      have r5 := four_cells (sbh.out.ext x1h.out).b5
      have r8 := two_cells (sbh.out.ext x1h.out).b8
      have r6 := two_cells (sbh.out.ext x1h.out).b6
      obtain ⟨r50, r51, r52, r53⟩ := r5
      obtain ⟨r80, r81⟩ := r8
      obtain ⟨r60, r61⟩ := r6
      have rf0 := frozen_of_row W1 g6 0 _ _ (sbh.out.ext x1h.out).b6
      have rf1 := frozen_of_row W1 g6 1 _ _ (sbh.out.ext x1h.out).b6
      go_wp2_with fail
      go_at_call 54
      refine G3.mono ?_
      rintro _ W2 ⟨rfl, x2⟩
      have x2h : Hid (Ext Wa W2) := x1h.out.trans x2.ext
      clear r50 r51 r52 r53 r80 r81 r60 r61 rf0 rf1 x2 G3
      have s5 := four_cells (sbh.out.ext x2h.out).b5
      have s8 := two_cells (sbh.out.ext x2h.out).b8
      have s6 := two_cells (sbh.out.ext x2h.out).b6
      obtain ⟨s50, s51, s52, s53⟩ := s5
      obtain ⟨s80, s81⟩ := s8
      obtain ⟨s60, s61⟩ := s6
      have sf0 := frozen_of_row W2 g6 0 _ _ (sbh.out.ext x2h.out).b6
      have sf1 := frozen_of_row W2 g6 1 _ _ (sbh.out.ext x2h.out).b6
      obtain ⟨k6, o6⟩ := set_kept rfl (sbh.out.ext x2h.out).b6 .nilFunc (.slice none 0 0)
      have k7 := two_cells k6
      have k7h : Hid _ := k7
      have fin2 : Hid _ := And.intro ((pah.out.ext x2h.out).goK (sbh.out.ext x2h.out).b6 hg6c.out o6) ((PlF.ext (B := B) (R := R) (u := u) (xah.out.trans x2h.out)).goK o6 hg6w.out)
      clear k6 o6 k7
      go_wp2
      (try simp only [Exit.inBlock, Exit.then])
      refine bodyPost_ret (results_kept rfl _ _ g6 _ _ rfl k7h.out.1 k7h.out.2) rfl ?_
      exact ⟨rfl, fin2.out.1, fin2.out.2⟩
  · have K1 := BS.Rank_any cb o Wa.drew B t (pah.out.ext (Ext.refl Wa).drew).bg k (by omega)
    rw [hre] at K1
    have K2 := fun W1 (x : Ext Wa W1) => qRank W1 _ R o L (pah.out.ext x).rf k
    generalize rankL (cmpI o) k L = rr at *
    clear hge hre hln hcn heh
    have q5 := four_cells (sbh.out.ext (Ext.refl Wa)).b5
    have q8 := two_cells (sbh.out.ext (Ext.refl Wa)).b8
    have q6 := two_cells (sbh.out.ext (Ext.refl Wa)).b6
    obtain ⟨q50, q51, q52, q53⟩ := q5
    obtain ⟨q80, q81⟩ := q8
    obtain ⟨q60, q61⟩ := q6
    have qf0 := frozen_of_row Wa g6 0 _ _ (sbh.out.ext (Ext.refl Wa)).b6
    have qf1 := frozen_of_row Wa g6 1 _ _ (sbh.out.ext (Ext.refl Wa)).b6
    go_enter Try.func12, Try.ntmps12
    go_upto_region 2 with fail
    rw [← hWa, ← hg8, ← hg6, ← hg5]
    clear hWa hg8 hg6 hg5
    go_wp2_with fail
    go_region_held3 (fun W => W.cell? ⟨g5, 1, none⟩ = some (.int .i64 k.toInt) ∧ W.cell? ⟨g8, 0, none⟩ = some .nilFunc ∧ W.cell? ⟨g8, 1, none⟩ = some (.slice none 0 0)) (go_keep) ((first | (go_at_call 49; refine K1.mono ?_; rintro _ W1 ⟨rfl, x1⟩; have y := (sbh.out.ext (Ext.refl Wa).drew).ext x1; have y1 := (four_cells y.b5).2.1; have y3 := (two_cells y.b8).1; have y4 := (two_cells y.b8).2; have x1h : Hid (Ext Wa W1) := (Ext.refl Wa).drew.trans x1; have K3 := K2 W1 x1h.out; clear x1 y) | (go_at_call 55; refine K3.mono ?_; rintro _ W2 ⟨rfl, x2⟩; have x2h : Hid (Ext Wa W2) := x1h.out.trans x2.ext; have s2 := sbh.out.ext x2h.out; have z1 := (four_cells s2.b5).2.1; have z3 := (two_cells s2.b8).1; have z4 := (two_cells s2.b8).2; have z5 := (two_cells s2.b6).1; have z6 := (two_cells s2.b6).2; have z7 := frozen_of_row W2 g6 0 _ _ s2.b6; have z8 := frozen_of_row W2 g6 1 _ _ s2.b6; have o6 := (set_kept rfl s2.b6 .nilFunc (.slice none 0 0)).2; have w1 := o6.cell z1 hn5.out; have w3 := o6.cell z3 hn8.out; have w4 := o6.cell z4 hn8.out; clear o6 s2 x2)))
    all_goals
      obtain ⟨k6, o6⟩ := set_kept rfl (sbh.out.ext x2h.out).b6 .nilFunc (.slice none 0 0)
      have k7 := two_cells k6
      have k7h : Hid _ := k7
      have fin2 : Hid _ := And.intro ((pah.out.ext x2h.out).goK (sbh.out.ext x2h.out).b6 hg6c.out o6) ((PlF.ext (B := B) (R := R) (u := u) (xah.out.trans x2h.out)).goK o6 hg6w.out)
      clear k6 o6 k7
      go_wp2
      (try simp only [Exit.inBlock, Exit.then])
      refine bodyPost_ret (results_kept rfl _ _ g6 _ _ rfl k7h.out.1 k7h.out.2) rfl ?_
      exact ⟨rfl, fin2.out.1, fin2.out.2⟩
  · have G1 := BS.Nth_any cb o Wa B t pah.out.bg nn hn1 hn2 (by omega)
    have hnt : t.nth nn = if 0 ≤ nn then L[nn.toNat]? else none := by
      by_cases h0 : 0 ≤ nn
      · rw [if_pos h0, ← he.eq, ← Tr.nth_row]
        congr 1
        omega
      · rw [if_neg h0, Tr.nth_neg t nn (by omega)]
    rw [hnt] at G1
    have G2 := fun W1 (x : Ext Wa W1) => qNth W1 _ R o L (pah.out.ext x).rf nn hn1 hn2
    obtain ⟨X, hX⟩ : ∃ X, (if 0 ≤ nn then L[nn.toNat]? else none) = X := ⟨_, rfl⟩
    simp only [hX] at G1 G2
    clear hge hre hln hcn heh hnt hX
    have q5 := four_cells (sbh.out.ext (Ext.refl Wa)).b5
    have q8 := two_cells (sbh.out.ext (Ext.refl Wa)).b8
    have q6 := two_cells (sbh.out.ext (Ext.refl Wa)).b6
    obtain ⟨q50, q51, q52, q53⟩ := q5
    obtain ⟨q80, q81⟩ := q8
    obtain ⟨q60, q61⟩ := q6
    have qf0 := frozen_of_row Wa g6 0 _ _ (sbh.out.ext (Ext.refl Wa)).b6
    have qf1 := frozen_of_row Wa g6 1 _ _ (sbh.out.ext (Ext.refl Wa)).b6
    cases X with
    | none =>
      simp only [BS.nthO] at G1 G2
      go_enter Try.func12, Try.ntmps12
      go_upto_region 2 with fail
      rw [← hWa, ← hg8, ← hg6, ← hg5]
      clear hWa hg8 hg6 hg5
      go_wp2_with fail
      go_at_call 44
      refine G1.mono ?_
      rintro _ W1 ⟨rfl, x1⟩
      have G3 := G2 W1 x1
      have x1h : Hid (Ext Wa W1) := x1
      clear q50 q51 q52 q53 q80 q81 q60 q61 qf0 qf1 x1 G1 G2
      have r5 := four_cells (sbh.out.ext x1h.out).b5
      have r8 := two_cells (sbh.out.ext x1h.out).b8
      have r6 := two_cells (sbh.out.ext x1h.out).b6
      obtain ⟨r50, r51, r52, r53⟩ := r5
      obtain ⟨r80, r81⟩ := r8
      obtain ⟨r60, r61⟩ := r6
      have rf0 := frozen_of_row W1 g6 0 _ _ (sbh.out.ext x1h.out).b6
      have rf1 := frozen_of_row W1 g6 1 _ _ (sbh.out.ext x1h.out).b6
      go_wp2_with fail
      go_at_call 56
      refine G3.mono ?_
      rintro _ W2 ⟨rfl, x2⟩
      have x2h : Hid (Ext Wa W2) := x1h.out.trans x2.ext
      clear r50 r51 r52 r53 r80 r81 r60 r61 rf0 rf1 x2 G3
      have s5 := four_cells (sbh.out.ext x2h.out).b5
      have s8 := two_cells (sbh.out.ext x2h.out).b8
      have s6 := two_cells (sbh.out.ext x2h.out).b6
      obtain ⟨s50, s51, s52, s53⟩ := s5
      obtain ⟨s80, s81⟩ := s8
      obtain ⟨s60, s61⟩ := s6
      have sf0 := frozen_of_row W2 g6 0 _ _ (sbh.out.ext x2h.out).b6
      have sf1 := frozen_of_row W2 g6 1 _ _ (sbh.out.ext x2h.out).b6
      obtain ⟨k6, o6⟩ := set_kept rfl (sbh.out.ext x2h.out).b6 .nilFunc (.slice none 0 0)
      have k7 := two_cells k6
      have k7h : Hid _ := k7
      have fin2 : Hid _ := And.intro ((pah.out.ext x2h.out).goK (sbh.out.ext x2h.out).b6 hg6c.out o6) ((PlF.ext (B := B) (R := R) (u := u) (xah.out.trans x2h.out)).goK o6 hg6w.out)
      clear k6 o6 k7
      go_wp2
      (try simp only [Exit.inBlock, Exit.then])
      refine bodyPost_ret (results_kept rfl _ _ g6 _ _ rfl k7h.out.1 k7h.out.2) rfl ?_
      exact ⟨rfl, fin2.out.1, fin2.out.2⟩
    | some p =>
      simp only [BS.nthO, S6, I6] at G1 G2
      go_enter Try.func12, Try.ntmps12
      go_upto_region 2 with fail
      rw [← hWa, ← hg8, ← hg6, ← hg5]
      clear hWa hg8 hg6 hg5
      go_wp2_with fail
      go_at_call 44
      refine G1.mono ?_
      rintro _ W1 ⟨rfl, x1⟩
      have G3 := G2 W1 x1
      have x1h : Hid (Ext Wa W1) := x1
      clear q50 q51 q52 q53 q80 q81 q60 q61 qf0 qf1 x1 G1 G2
      have r5 := four_cells (sbh.out.ext x1h.out).b5
      have r8 := two_cells (sbh.out.ext x1h.out).b8
      have r6 := two_cells (sbh.out.ext x1h.out).b6
      obtain ⟨r50, r51, r52, r53⟩ := r5
      obtain ⟨r80, r81⟩ := r8
      obtain ⟨r60, r61⟩ := r6
      have rf0 := frozen_of_row W1 g6 0 _ _ (sbh.out.ext x1h.out).b6
      have rf1 := frozen_of_row W1 g6 1 _ _ (sbh.out.ext x1h.out).b6
      go_wp2_with fail
      go_at_call 56
      refine G3.mono ?_
      rintro _ W2 ⟨rfl, x2⟩
      have x2h : Hid (Ext Wa W2) := x1h.out.trans x2.ext
      clear r50 r51 r52 r53 r80 r81 r60 r61 rf0 rf1 x2 G3
      have s5 := four_cells (sbh.out.ext x2h.out).b5
      have s8 := two_cells (sbh.out.ext x2h.out).b8
      have s6 := two_cells (sbh.out.ext x2h.out).b6
      obtain ⟨s50, s51, s52, s53⟩ := s5
      obtain ⟨s80, s81⟩ := s8
      obtain ⟨s60, s61⟩ := s6
      have sf0 := frozen_of_row W2 g6 0 _ _ (sbh.out.ext x2h.out).b6
      have sf1 := frozen_of_row W2 g6 1 _ _ (sbh.out.ext x2h.out).b6
      obtain ⟨k6, o6⟩ := set_kept rfl (sbh.out.ext x2h.out).b6 .nilFunc (.slice none 0 0)
      have k7 := two_cells k6
      have k7h : Hid _ := k7
      have fin2 : Hid _ := And.intro ((pah.out.ext x2h.out).goK (sbh.out.ext x2h.out).b6 hg6c.out o6) ((PlF.ext (B := B) (R := R) (u := u) (xah.out.trans x2h.out)).goK o6 hg6w.out)
      clear k6 o6 k7
      go_wp2
      (try simp only [Exit.inBlock, Exit.then])
      refine bodyPost_ret (results_kept rfl _ _ g6 _ _ rfl k7h.out.1 k7h.out.2) rfl ?_
      exact ⟨rfl, fin2.out.1, fin2.out.2⟩
  · have K1 := BS.Len_any cb o Wa.drew B t (pah.out.ext (Ext.refl Wa).drew).bg
    rw [hcn] at K1
    have K2 := fun W1 (x : Ext Wa W1) => qLen W1 _ R o L (pah.out.ext x).rf
    have K1 := K1.mono (fun e w' (hh : e = .returned (.int .i64 (L.length : Nat)) ∧ w' = Wa.drew) => (show e = .returned (.int .i64 (L.length : Nat)) ∧ Ext Wa.drew w' from ⟨hh.1, by rw [hh.2]; exact Ext.refl _⟩))
    have K2 := fun W1 (x : Ext Wa W1) => (K2 W1 x).mono (fun e w' (hh : e = .returned (.int .i64 (L.length : Nat)) ∧ w' = W1) => (show e = .returned (.int .i64 (L.length : Nat)) ∧ Drew W1 w' from ⟨hh.1, by rw [hh.2]; exact Drew.refl _⟩))
    generalize L.length = rr at *
    clear hge hre hcn
    have q5 := four_cells (sbh.out.ext (Ext.refl Wa)).b5
    have q8 := two_cells (sbh.out.ext (Ext.refl Wa)).b8
    have q6 := two_cells (sbh.out.ext (Ext.refl Wa)).b6
    obtain ⟨q50, q51, q52, q53⟩ := q5
    obtain ⟨q80, q81⟩ := q8
    obtain ⟨q60, q61⟩ := q6
    have qf0 := frozen_of_row Wa g6 0 _ _ (sbh.out.ext (Ext.refl Wa)).b6
    have qf1 := frozen_of_row Wa g6 1 _ _ (sbh.out.ext (Ext.refl Wa)).b6
    go_enter Try.func12, Try.ntmps12
    go_upto_region 2 with fail
    rw [← hWa, ← hg8, ← hg6, ← hg5]
    clear hWa hg8 hg6 hg5
    go_wp2_with fail
    go_region_held3 (fun W => W.cell? ⟨g8, 0, none⟩ = some .nilFunc ∧ W.cell? ⟨g8, 1, none⟩ = some (.slice none 0 0)) (go_keep) ((first | (go_at_call 16; refine K1.mono ?_; rintro _ W1 ⟨rfl, x1⟩; have y := (sbh.out.ext (Ext.refl Wa).drew).ext x1; have y3 := (two_cells y.b8).1; have y4 := (two_cells y.b8).2; have x1h : Hid (Ext Wa W1) := (Ext.refl Wa).drew.trans x1; have K3 := K2 W1 x1h.out; clear x1 y) | (go_at_call 17; refine K3.mono ?_; rintro _ W2 ⟨rfl, x2⟩; have x2h : Hid (Ext Wa W2) := x1h.out.trans x2.ext; have s2 := sbh.out.ext x2h.out; have z3 := (two_cells s2.b8).1; have z4 := (two_cells s2.b8).2; have z5 := (two_cells s2.b6).1; have z6 := (two_cells s2.b6).2; have z7 := frozen_of_row W2 g6 0 _ _ s2.b6; have z8 := frozen_of_row W2 g6 1 _ _ s2.b6; have o6 := (set_kept rfl s2.b6 .nilFunc (.slice none 0 0)).2; have w3 := o6.cell z3 hn8.out; have w4 := o6.cell z4 hn8.out; clear o6 s2 x2)))
    all_goals
      obtain ⟨k6, o6⟩ := set_kept rfl (sbh.out.ext x2h.out).b6 .nilFunc (.slice none 0 0)
      have k7 := two_cells k6
      have k7h : Hid _ := k7
      have fin2 : Hid _ := And.intro ((pah.out.ext x2h.out).goK (sbh.out.ext x2h.out).b6 hg6c.out o6) ((PlF.ext (B := B) (R := R) (u := u) (xah.out.trans x2h.out)).goK o6 hg6w.out)
      clear k6 o6 k7
      go_wp2
      (try simp only [Exit.inBlock, Exit.then])
      refine bodyPost_ret (results_kept rfl _ _ g6 _ _ rfl k7h.out.1 k7h.out.2) rfl ?_
      exact ⟨rfl, fin2.out.1, fin2.out.2⟩
  · obtain ⟨e1, e2, e3, e4, e5, e6, e7, e8, e9⟩ := hd
    have f1 : (d == 1) = false := by simpa using e1
    have f2 : (d == 2) = false := by simpa using e2
    have f3 : (d == 3) = false := by simpa using e3
    have f4 : (d == 4) = false := by simpa using e4
    have f5 : (d == 5) = false := by simpa using e5
    have f6 : (d == 6) = false := by simpa using e6
    have f7 : (d == 7) = false := by simpa using e7
    have f8 : (d == 8) = false := by simpa using e8
    have f9 : (d == 9) = false := by simpa using e9
    clear hge hre hln hcn heh
    have q5 := four_cells (sbh.out.ext (Ext.refl Wa)).b5
    have q8 := two_cells (sbh.out.ext (Ext.refl Wa)).b8
    have q6 := two_cells (sbh.out.ext (Ext.refl Wa)).b6
    obtain ⟨q50, q51, q52, q53⟩ := q5
    obtain ⟨q80, q81⟩ := q8
    obtain ⟨q60, q61⟩ := q6
    have qf0 := frozen_of_row Wa g6 0 _ _ (sbh.out.ext (Ext.refl Wa)).b6
    have qf1 := frozen_of_row Wa g6 1 _ _ (sbh.out.ext (Ext.refl Wa)).b6
    go_enter Try.func12, Try.ntmps12
    go_upto_region 2 with fail
    rw [← hWa, ← hg8, ← hg6, ← hg5]
    clear hWa hg8 hg6 hg5
    obtain ⟨k6, o6⟩ := set_kept rfl (sbh.out.ext (Ext.refl Wa)).b6 .nilFunc (.slice none 0 0)
    have k7 := two_cells k6
    have k7h : Hid _ := k7
    have fin2 : Hid _ := And.intro ((pah.out.ext (Ext.refl Wa)).goK (sbh.out.ext (Ext.refl Wa)).b6 hg6c.out o6) ((PlF.ext (B := B) (R := R) (u := u) (xah.out.trans (Ext.refl Wa))).goK o6 hg6w.out)
    clear k6 o6 k7
    go_wp2
    (try simp only [Exit.inBlock, Exit.then])
    refine bodyPost_ret (results_kept rfl _ _ g6 _ _ rfl k7h.out.1 k7h.out.2) rfl ?_
    exact ⟨rfl, fin2.out.1, fin2.out.2⟩
end
end Go.Proofs.Ytkdfgjdencelkaa
