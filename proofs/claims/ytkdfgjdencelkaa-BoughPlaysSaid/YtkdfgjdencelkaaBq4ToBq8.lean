/-
  The document's bough: All, From; Del.
-/
import Derived.Test.YtkdfgjdencelkaaBq3
import Derived.Test.YtkdfgjdencelkaaBrs2
import Derived.Deep.RegionHeld3
import Derived.Test.YtkdfgjdencelkaaBp2
namespace Go.Proofs.Ytkdfgjdencelkaa
open Go.RowKit
theorem psl_drop {w : World} {a : Option Addr} {n cap : Nat} {L : List Pr} (h : PSl w (.slice a n cap) L) (k : Nat) (hk : k ≤ L.length) (X : Option Addr) (hX : (if cap = k then a else a.map (fun x => x.add (k * 2))) = X) : PSl w (.slice X (n - k) (cap - k)) (L.drop k) := by
  obtain ⟨h1, h2, h3⟩ := h.len
  have hl : (L.drop k).length = n - k := by rw [List.length_drop]; omega
  refine ⟨X, cap - k, by rw [hl], by rw [hl]; omega, by omega, fun j hj => ?_⟩
  rw [hl] at hj
  obtain ⟨g, o, e, c1, c2⟩ := h.at (k + j) (by omega)
  refine ⟨g, o + k * 2, ?_, ?_, ?_⟩
  · rw [← hX, if_neg (by omega), e]
    simp [Addr.add]
  · rw [show o + k * 2 + j * 2 = o + (k + j) * 2 by omega, c1]; simp
  · rw [show o + k * 2 + j * 2 + 1 = o + (k + j) * 2 + 1 by omega, c2]; simp
theorem psl_take {w : World} {a : Option Addr} {n cap m : Nat} {L : List Pr} (h : PSl w (.slice a n cap) L) (hm : m ≤ L.length) : PSl w (.slice a m cap) (L.take m) := by
  obtain ⟨h1, h2, h3⟩ := h.len
  have hl : (L.take m).length = m := by rw [List.length_take]; omega
  refine ⟨a, cap, by rw [hl], by rw [hl]; omega, h3, fun j hj => ?_⟩
  rw [hl] at hj
  obtain ⟨g, o, e, c1, c2⟩ := h.at j (by omega)
  exact ⟨g, o, e, by rw [c1]; simp, by rw [c2]; simp⟩
/-- a new row of pairs -/
theorem pnew {W : World} (ty : TypeId) {x : Value} {M : List Pr} (hx : PSl W x M) (hl : M.length ≤ 5000000000000) :
    ∃ a cap W', (Builtin.append_ #[33, 33] ty #[.slice none 0 0, x]).run Try.prog W = .ok (.slice a M.length cap) W' ∧ PRow W' (fun k => W.heap.size ≤ k) (.slice a M.length cap) M ∧ Ext W W' := by
  obtain ⟨a, cap, W', h1, h2, h3⟩ := papp (prow_nil W (fun _ => True)) ty hx (by simpa using hl)
  simp only [List.length_nil, Nat.zero_add, List.nil_append] at h1 h2
  have h0 : ∀ g, ¬ own (.slice none 0 0) g := fun g hg => by simp [own, Value.ownBlock] at hg
  exact ⟨a, cap, W', h1, ⟨h2.1, fun g hg => (h2.2 g hg).elim (fun h9 => absurd h9 (h0 g)) (fun h9 => h9)⟩, h3.toExt (fun g hg => absurd hg (h0 g))⟩
section
set_option maxRecDepth 100000
theorem sizeP (w : World) : (sizeOf (Try.prog.elem 33)).run Try.prog w = .ok 2 w := by
  rw [show Try.prog.elem 33 = 96 by kernel_rfl]
  exact Try.sizeOf96 w
theorem elemP : Try.prog.underlying 33 = some (.slice (Try.prog.elem 33)) := by kernel_rfl
theorem pslice_low (a : Option Addr) (n cap s : Nat) (hs : s ≤ n) (X : Option Addr) (hX : (if cap = s then a else a.map (fun x => x.add (s * 2))) = X) (w : World) : (Instr.slice 33 (.slice a n cap) (some (.int .i64 (s : Int))) none none).run Try.prog w = .ok (.slice X (n - s) (cap - s)) w := by
  rw [run_slice_l (t := 33) (a := a) (len := n) (cap := cap) (ht := elemP) (kl := .i64) (l := (s : Int)) (h0 := by omega) (h1 := by omega), sizeP]
  simp only [Result.andThen, sliced, Int.toNat_natCast]
  rw [← hX]
theorem pslice_high (a : Option Addr) (n cap s : Nat) (hs : s ≤ cap) (w : World) : (Instr.slice 33 (.slice a n cap) none (some (.int .i64 (s : Int))) none).run Try.prog w = .ok (.slice a s cap) w := by
  rw [run_slice_h (t := 33) (a := a) (len := n) (cap := cap) (ht := elemP) (kh := .i64) (h := (s : Int)) (h0 := by omega) (h2 := by omega), sizeP]
  simp only [Result.andThen, sliced, Int.toNat_natCast, Nat.zero_mul, Nat.sub_zero]
  have h0 : ∀ x : Addr, x.add 0 = x := fun x => by unfold Addr.add; split <;> simp_all
  cases a <;> simp [h0]
set_option maxHeartbeats 2000000
theorem qAll (w : World) (S : Nat → Prop) (R : Nat) (o : Int) (L : List Pr) (h : RfAt w S R o L) (hl : L.length ≤ 4000000000000) : Calls Try.prog 15 #[.pointer (some ⟨R, 0, none⟩)] w fun e w' => ∃ v, e = .returned v ∧ PRow w' (fun k => w.heap.size ≤ k) v L ∧ Ext w w' := by
  obtain ⟨u, hR, r1⟩ := h
  have c1 : w.cell? ⟨R, 1, none⟩ = some u := cell_of_row _ _ 1 _ _ _ hR
  obtain ⟨a5, c5, w5, run5, r5, x5⟩ := pnew 33 r1.sl (by omega)
  obtain ⟨a, n, cap, rfl, hn⟩ := r1.sl.shape
  have run5h : Hid _ := run5
  have fin : Hid (PRow w5 (fun k => w.heap.size ≤ k) (.slice a5 L.length c5) L ∧ Ext w w5) := ⟨r5, x5⟩
  clear hR r1 run5 r5 x5
  go_enter Try.func15, Try.ntmps15
  go_wp2_with (at_builtin; refine Hid.out ?_)
  refine Lib.wpList_append_run _ rfl _ _ _ _ rfl _ _ rfl rfl _ _ run5h.out ?_
  go_wp2
  go_ret
  exact ⟨_, rfl, fin.out.1, fin.out.2⟩
theorem qFrom (w : World) (S : Nat → Prop) (R : Nat) (o : Int) (L : List Pr) (h : RfAt w S R o L) (hl : L.length ≤ 4000000000000) (k : Int64) : Calls Try.prog 57 #[.pointer (some ⟨R, 0, none⟩), .int .i64 k.toInt] w fun e w' => ∃ v, e = .returned v ∧ PRow w' (fun k => w.heap.size ≤ k) v (L.drop (rankL (cmpI o) k L)) ∧ Ext w w' := by
  have Q1 := qRank w.drew S R o L (h.ext (Ext.refl w).drew) k
  obtain ⟨u, hR, r1⟩ := h
  have c1' : w.cell? ⟨R, 1, none⟩ = some u := cell_of_row _ _ 1 _ _ _ hR
  obtain ⟨a, n, cap, rfl, hn⟩ := r1.sl.shape
  have hs : Hid (PSl w (.slice a n cap) L) := r1.sl
  have c1 := c1'
  have c1h : Hid (w.drew.cell? ⟨R, 1, none⟩ = some (.slice a n cap)) := c1'
  have hle : rankL (cmpI o) k L ≤ L.length := rankL_le _ _ _
  obtain ⟨r, hr⟩ : ∃ r, rankL (cmpI o) k L = r := ⟨_, rfl⟩
  rw [hr] at Q1 hle ⊢
  have hrn : r ≤ n := by have := hn.out; omega
  obtain ⟨X, hX⟩ : ∃ X, (if cap = r then a else a.map (fun x => x.add (r * 2))) = X := ⟨_, rfl⟩
  have L1 := pslice_low a n cap r hrn X hX
  have hN : ∀ W, Ext w W → ∃ a5 c5 w5, (Builtin.append_ #[33, 33] 33 #[.slice none 0 0, .slice X (n - r) (cap - r)]).run Try.prog W = .ok (.slice a5 (L.drop r).length c5) w5 ∧ Hid (PRow w5 (fun k => w.heap.size ≤ k) (.slice a5 (L.drop r).length c5) (L.drop r) ∧ Ext w w5) := fun W x => by
    obtain ⟨a5, c5, w5, run5, r5, x5⟩ := pnew 33 (psl_drop (hs.out.ext x) r hle X hX) (by rw [List.length_drop]; omega)
    exact ⟨a5, c5, w5, run5, ⟨r5.1, fun g hg => Nat.le_trans x.size (r5.2 g hg)⟩, x.trans x5⟩
  have hNh : Hid (∀ W, Ext w W → ∃ a5 c5 w5, (Builtin.append_ #[33, 33] 33 #[.slice none 0 0, .slice X (n - r) (cap - r)]).run Try.prog W = .ok (.slice a5 (L.drop r).length c5) w5 ∧ Hid (PRow w5 (fun k => w.heap.size ≤ k) (.slice a5 (L.drop r).length c5) (L.drop r) ∧ Ext w w5)) := hN
  have xd : Hid (Ext w w.drew) := (Ext.refl w).drew
  clear hR r1 c1' hX hr hle hN hn
  generalize (L.drop r).length = ln at *
  go_enter Try.func57, Try.ntmps57
  go_wp2_with fail
  go_region_held3 (fun W => W.cell? ⟨R, 1, none⟩ = some (.slice a n cap)) (go_keep) ((first | (go_at_call 55; refine Q1.mono ?_; rintro _ w1 ⟨rfl, x1⟩; have d1 := x1.ext.cell c1h.out; obtain ⟨a5, c5, w5, run5, fin⟩ := hNh.out w1 (xd.out.trans x1.ext); have run5h : Hid _ := run5; clear x1 run5) | (refine step_append_known (by rfl) _ _ _ _ (by rfl) _ _ (by rfl) (by rfl) run5h.out ?_; have d5 := fin.out.2.cell c1)))
  all_goals go_wp2
  all_goals go_ret
  all_goals exact ⟨_, rfl, fin.out.1, fin.out.2⟩
end
end Go.Proofs.Ytkdfgjdencelkaa

/-
  The document's bough: Del, Put.
-/
namespace Go.Proofs.Ytkdfgjdencelkaa
open Go.RowKit
theorem setRf (w : World) (R : Nat) (o : Int) (u v : Value) (hB : w.heap[R]? = some (.cells #[.int .i64 o, u] 93 (0, 0))) :
    (w.setCell ⟨R, 1, none⟩ v).heap[R]? = some (.cells #[.int .i64 o, v] 93 (0, 0)) ∧ Only (fun g => g = R) w (w.setCell ⟨R, 1, none⟩ v) :=
  ⟨heap_setCell_at w R 1 v _ _ _ hB, (Only.refl (fun g => g = R) w).setCell (p := ⟨R, 1, none⟩) (.inl rfl) _⟩
theorem prow_keep {W W' : World} {S : Nat → Prop} {R : Nat} {c : Array Value} {v : Value} {L : List Pr} (h : PRow W S v L) (hB : W.heap[R]? = some (.cells c 93 (0, 0))) (o : Only (fun g => g = R) W W') : PRow W' S v L := by
  have h9 := Row.kept (Row.min h) o (fun g hg hg' => by
    obtain ⟨c', hc⟩ := own_typeN h g hg
    rw [show g = R from hg', hB] at hc
    simp only [Option.some.injEq, Obj.cells.injEq] at hc
    exact absurd hc.2.1.symm (by decide))
  exact ⟨h9.1, h.2⟩
theorem found_rank {o : Int} {k : Int64} {L : List Pr} (h : (getL (cmpI o) k L).isSome = true) : rankL (cmpI o) k L < L.length ∧ delL (cmpI o) k L = L.take (rankL (cmpI o) k L) ++ L.drop (rankL (cmpI o) k L + 1) := del_yes h
section
set_option maxRecDepth 100000
set_option maxHeartbeats 4000000
theorem qDel_no (w : World) (S : Nat → Prop) (R : Nat) (o : Int) (L : List Pr) (h : RfAt w S R o L) (k : Int64) (hb : (getL (cmpI o) k L).isSome = false) : Calls Try.prog 53 #[.pointer (some ⟨R, 0, none⟩), .int .i64 k.toInt] w fun e w' => e = .returned (.bool false) ∧ Drew w w' := by
  have Q1 := qAt w _ R o L h k
  rw [hb] at Q1
  simp only [atN, Bool.false_eq_true, if_false] at Q1
  clear h hb
  go_enter Try.func53, Try.ntmps53
  go_wp2_with fail
  go_at_call 81
  refine Q1.mono ?_
  rintro _ wr ⟨rfl, xw⟩
  have xwh : Hid (Drew w wr) := xw
  clear xw
  go_wp2
  go_ret
  exact ⟨rfl, xwh.out⟩
theorem qDel_yes (w : World) (S : Nat → Prop) (R : Nat) (o : Int) (L : List Pr) (h : RfAt w S R o L) (hl : L.length ≤ 4000000000000) (k : Int64) (hb : (getL (cmpI o) k L).isSome = true) : Calls Try.prog 53 #[.pointer (some ⟨R, 0, none⟩), .int .i64 k.toInt] w fun e w' => e = .returned (.bool true) ∧ RfAt w' (fun k => w.heap.size ≤ k) R o (delL (cmpI o) k L) ∧ Only (fun g => g = R) w w' := by
  have Q1 := qAt w _ R o L h k
  rw [hb] at Q1
  obtain ⟨hrl, hdl⟩ := found_rank hb
  obtain ⟨r, hr⟩ : ∃ r, rankL (cmpI o) k L = r := ⟨_, rfl⟩
  rw [hr] at Q1 hrl hdl
  rw [hdl]
  simp only [atN, if_true] at Q1
  obtain ⟨u, hR, r1⟩ := h
  obtain ⟨a, n, cap, rfl, hn⟩ := r1.sl.shape
  have hs : Hid (PSl w (.slice a n cap) L) := r1.sl
  have hcap := hs.out.len
  unfold maxLen at hcap
  have hc1 : n ≤ cap := hcap.2.1
  have hc2 : cap ≤ 9223372036854775807 := by omega
  obtain ⟨g, oo, ea, ej⟩ := hs.out.at r hrl
  clear ej
  subst ea
  have hRh : Hid (w.heap[R]? = some (.cells #[.int .i64 o, .slice (some ⟨g, oo, none⟩) n cap] 93 (0, 0))) := hR
  obtain ⟨s, hsr⟩ : ∃ s, Hid (s = r + 1) := ⟨_, rfl⟩
  have hsn : s ≤ n := by have := hsr.out; have := hn.out; omega
  obtain ⟨X, hX⟩ : ∃ X, (if cap = s then (some ⟨g, oo, none⟩ : Option Addr) else (some ⟨g, oo, none⟩ : Option Addr).map (fun x => x.add (s * 2))) = X := ⟨_, rfl⟩
  have hXh : Hid ((if cap = s then (some ⟨g, oo, none⟩ : Option Addr) else (some ⟨g, oo, none⟩ : Option Addr).map (fun x => x.add (s * 2))) = X) := hX
  have hwt : (r : Int) + 1 = (s : Int) := by have := hsr.out; omega
  have hrn : r ≤ n := by have := hsr.out; omega
  have hrlh : Hid (r < L.length) := hrl
  have hln : Hid (L.length = n) := hn.out.symm
  clear hR r1 hX hb hdl hr hrl hn hcap
  go_enter Try.func53, Try.ntmps53
  go_wp2_with fail
  go_at_call 81
  refine Q1.mono ?_
  rintro _ wr ⟨rfl, xw⟩
  have xe := xw.ext
  have d1 : wr.cell? ⟨R, 1, none⟩ = some (.slice (some ⟨g, oo, none⟩) n cap) := xe.cell (cell_of_row _ _ 1 _ _ _ hRh.out)
  have hl1 : (L.take r).length = r := by rw [List.length_take]; have := hrlh.out; omega
  obtain ⟨a5, c5, w5, run5, r5, x5⟩ := pnew 33 (psl_take (m := r) (hs.out.ext xe) (by have := hrlh.out; omega)) (by rw [hl1]; have := hrlh.out; omega)
  rw [hl1] at run5 r5
  have x5w : Ext w w5 := xe.trans x5
  have d5 : w5.cell? ⟨R, 1, none⟩ = some (.slice (some ⟨g, oo, none⟩) n cap) := x5w.cell (cell_of_row _ _ 1 _ _ _ hRh.out)
  have hl2 : (L.drop s).length = n - s := by rw [List.length_drop]; have := hln.out; omega
  obtain ⟨a6, c6, w6, run6, r6, o6⟩ := papp r5 33 (psl_drop (hs.out.ext x5w) s (by have := hln.out; omega) X hXh.out) (by rw [hl1, hl2]; have := hrlh.out; have := hln.out; omega)
  rw [hl1, hl2] at run6 r6
  have x6w : Ext w w6 := Ext.then x5w o6 (fun g hg => Nat.le_trans xe.size (r5.2 g hg))
  have hR6 : w6.heap[R]? = some (.cells #[.int .i64 o, .slice (some ⟨g, oo, none⟩) n cap] 93 (0, 0)) := ext_block x6w hRh.out
  have d6 : w6.cell? ⟨R, 1, none⟩ = some (.slice (some ⟨g, oo, none⟩) n cap) := cell_of_row _ _ 1 _ _ _ hR6
  have f6 := frozen_of_row w6 R 1 _ _ hR6
  obtain ⟨hR7, o7⟩ := setRf w6 R o _ (.slice a6 (r + (n - s)) c6) hR6
  have fin : Hid (RfAt (w6.setCell ⟨R, 1, none⟩ (.slice a6 (r + (n - s)) c6)) (fun k => w.heap.size ≤ k) R o (L.take r ++ L.drop s) ∧ Only (fun g => g = R) w (w6.setCell ⟨R, 1, none⟩ (.slice a6 (r + (n - s)) c6))) := by
    refine ⟨⟨_, hR7, ?_⟩, x6w.only.then o7⟩
    refine prow_keep ⟨?_, fun g hg => ?_⟩ hR6 o7
    · unfold PRow at r6
      exact r6.1
    · rcases r6.2 g hg with h9 | h9
      · exact Nat.le_trans xe.size (r5.2 g h9)
      · exact Nat.le_trans x5w.size h9
  have run5h : Hid _ := run5
  have run6h : Hid _ := run6
  clear xw xe run5 run6 r5 r6 o6 x5 x5w x6w hR6 hR7 o7 hl1 hl2
  by_cases hcs : cap = s
  · have hns : n = s := by omega
    have hXe : X = some ⟨g, oo, none⟩ := by have := hXh.out; rw [if_pos hcs] at this; exact this.symm
    subst hXe
    subst hcs
    subst hns
    simp only [Nat.sub_self, Nat.add_zero] at run6h fin f6 d6
    clear hXh hln hrlh
    go_wp2_with (at_builtin; refine Hid.out ?_)
    refine Lib.wpList_append_run _ rfl _ _ _ _ rfl _ _ rfl rfl _ _ run5h.out ?_
    go_wp2_with (at_builtin; refine Hid.out ?_)
    refine Lib.wpList_append_run _ rfl _ _ _ _ rfl _ _ rfl rfl _ _ run6h.out ?_
    go_wp2
    go_ret
    rw [← hsr.out]
    exact ⟨rfl, fin.out.1, fin.out.2⟩
  · have hXe : X = some ⟨g, oo + s * 2, none⟩ := by have h9 := hXh.out; rw [if_neg hcs, Option.map_some, Addr.add_lit] at h9; exact h9.symm
    subst hXe
    clear hXh hln hrlh
    go_wp2_with (at_builtin; refine Hid.out ?_)
    refine Lib.wpList_append_run _ rfl _ _ _ _ rfl _ _ rfl rfl _ _ run5h.out ?_
    go_wp2_with (at_builtin; refine Hid.out ?_)
    refine Lib.wpList_append_run _ rfl _ _ _ _ rfl _ _ rfl rfl _ _ run6h.out ?_
    go_wp2
    go_ret
    rw [← hsr.out]
    exact ⟨rfl, fin.out.1, fin.out.2⟩
end
end Go.Proofs.Ytkdfgjdencelkaa

/-
  The document's bough: Put.
-/
namespace Go.Proofs.Ytkdfgjdencelkaa
open Go.RowKit
theorem flatP_set : ∀ (L : List Pr) (j : Nat) (p : Pr), flatP (L.set j p) = ((flatP L).set (j * 2) (.int .i64 p.1.toInt)).set (j * 2 + 1) (.string p.2)
  | [], j, p => by simp [flatP]
  | q :: t, 0, p => by simp [flatP, encP2]
  | q :: t, j + 1, p => by
    have ih := flatP_set t j p
    have e : ∀ (l : List Pr) (q : Pr), flatP (q :: l) = .int .i64 q.1.toInt :: .string q.2 :: flatP l := fun l q => by simp [flatP, encP2]
    rw [List.set_cons_succ, e, e, ih, show (j + 1) * 2 = j * 2 + 1 + 1 by omega]
    simp only [List.set_cons_succ]
/-- one pair of a row written over -/
theorem prow_set {W : World} {S : Nat → Prop} {g o n cap : Nat} {L : List Pr} (h : PRow W S (.slice (some ⟨g, o, none⟩) n cap) L) (j : Nat) (p : Pr) :
    o = 0 ∧ W.frozen? ⟨g, o + j * 2, none⟩ = false ∧ W.frozen? ⟨g, o + j * 2 + 1, none⟩ = false ∧
    PRow ((W.setCell ⟨g, o + j * 2, none⟩ (.int .i64 p.1.toInt)).setCell ⟨g, o + j * 2 + 1, none⟩ (.string p.2)) S (.slice (some ⟨g, o, none⟩) n cap) (L.set j p) ∧ Only (fun k => k = g) W ((W.setCell ⟨g, o + j * 2, none⟩ (.int .i64 p.1.toInt)).setCell ⟨g, o + j * 2 + 1, none⟩ (.string p.2)) := by
  rcases h.1.2 with ⟨e, _⟩ | ⟨g', cap', cur, e, h2, hg, h3, h4, h5, h6⟩
  · cases e
  · simp only [Value.slice.injEq, Option.some.injEq, Addr.mk.injEq] at e
    obtain ⟨⟨rfl, rfl, _⟩, rfl, rfl⟩ := e
    have hg1 := heap_setCell_at W g (0 + j * 2) (.int .i64 p.1.toInt) _ _ _ hg
    have hg2 := heap_setCell_at _ g (0 + j * 2 + 1) (.string p.2) _ _ _ hg1
    refine ⟨rfl, frozen_of_row _ _ _ _ _ hg, frozen_of_row _ _ _ _ _ hg, ⟨⟨by rw [flatP_len], .inr ⟨g, cap, _, by simp, h2, hg2, by simpa using h3, h4, by simpa using h5, ?_⟩⟩, fun k hk => h.2 k hk⟩, ?_⟩
    · rw [List.length_set, flatP_set, ← h6]
      simp only [Nat.zero_add, Array.toList_setIfInBounds, List.take_set]
    · exact ((Only.refl (fun k => k = g) W).setCell (p := ⟨g, 0 + j * 2, none⟩) (.inl rfl) _).setCell (p := ⟨g, 0 + j * 2 + 1, none⟩) (.inl rfl) _
/-- a pair that has just been laid -/
theorem psl_one (W : World) (p : Pr) (a b : Value) (ha : a = .int .i64 p.1.toInt) (hb : b = .string p.2) : PSl (W.alloc (.cells #[a, b] 96)) (.slice (some ⟨W.heap.size, 0, none⟩) 1 1) [p] := by
  subst ha hb
  refine ⟨_, 1, rfl, Nat.le_refl _, by unfold maxLen; omega, fun j hj => ⟨_, 0, rfl, ?_, ?_⟩⟩
  · obtain rfl : j = 0 := by simp at hj; omega
    exact cell_of_row _ _ 0 _ _ _ (heap_alloc_new W _)
  · obtain rfl : j = 0 := by simp at hj; omega
    exact cell_of_row _ _ 1 _ _ _ (heap_alloc_new W _)
section
set_option maxRecDepth 100000
set_option maxHeartbeats 4000000
theorem qPut_over (w : World) (S : Nat → Prop) (R : Nat) (o : Int) (L : List Pr) (h : RfAt w S R o L) (k : Int64) (v : ByteArray) (hb : (getL (cmpI o) k L).isSome = true) : Calls Try.prog 52 #[.pointer (some ⟨R, 0, none⟩), .int .i64 k.toInt, .string v] w fun e w' => e = .returned (.bool false) ∧ RfAt w' S R o (putL (cmpI o) k v L) ∧ ∃ u, w.heap[R]? = some (.cells #[.int .i64 o, u] 93 (0, 0)) ∧ Only (own u) w w' := by
  have Q1 := qAt w _ R o L h k
  rw [hb] at Q1
  obtain ⟨hrl, hpl⟩ := put_yes v hb
  obtain ⟨r, hr⟩ : ∃ r, rankL (cmpI o) k L = r := ⟨_, rfl⟩
  rw [hr] at Q1 hrl hpl
  rw [hpl]
  simp only [atN, if_true] at Q1
  obtain ⟨u, hR, r1⟩ := h
  obtain ⟨a, n, cap, rfl, hn⟩ := r1.sl.shape
  obtain ⟨g, oo, ea, ej⟩ := r1.sl.at r hrl
  subst ea
  have hm : n ≤ 9223372036854775807 := by have h9 := r1.sl.len; unfold maxLen at h9; omega
  have hrn : (r : Int) < (n : Int) := by have := hn.out; omega
  have hRh : Hid (w.heap[R]? = some (.cells #[.int .i64 o, .slice (some ⟨g, oo, none⟩) n cap] 93 (0, 0))) := hR
  have r1h : Hid (PRow w S (.slice (some ⟨g, oo, none⟩) n cap) L) := r1
  have ejh : Hid (w.cell? ⟨g, oo + r * 2, none⟩ = some (.int .i64 L[r].1.toInt) ∧ w.cell? ⟨g, oo + r * 2 + 1, none⟩ = some (.string L[r].2)) := ej
  clear hR r1 hb hpl hr hn ej
  go_enter Try.func52, Try.ntmps52
  go_wp2_with fail
  go_at_call 81
  refine Q1.mono ?_
  rintro _ wr ⟨rfl, xw⟩
  have xe := xw.ext
  have d1 : wr.cell? ⟨R, 1, none⟩ = some (.slice (some ⟨g, oo, none⟩) n cap) := xe.cell (cell_of_row _ _ 1 _ _ _ hRh.out)
  have e1 := xe.cell ejh.out.1
  have e2 := xe.cell ejh.out.2
  obtain ⟨z0, f1, f2, r5, o5⟩ := prow_set (r1h.out.ext xe) r (k, v)
  have hR5 : Hid (((wr.setCell ⟨g, oo + r * 2, none⟩ (.int .i64 k.toInt)).setCell ⟨g, oo + r * 2 + 1, none⟩ (.string v)).heap[R]? = some (.cells #[.int .i64 o, .slice (some ⟨g, oo, none⟩) n cap] 93 (0, 0))) := by
    refine (o5.block R (Array.getElem?_eq_some_iff.1 (ext_block xe hRh.out)).1 (fun hg => ?_)).trans (ext_block xe hRh.out)
    obtain ⟨c, hc⟩ := own_typeN (r1h.out.ext xe) R (by rw [show R = g from hg]; rfl)
    rw [ext_block xe hRh.out] at hc
    simp only [Option.some.injEq, Obj.cells.injEq] at hc
    exact absurd hc.2.1 (by decide)
  have fin : Hid (RfAt ((wr.setCell ⟨g, oo + r * 2, none⟩ (.int .i64 k.toInt)).setCell ⟨g, oo + r * 2 + 1, none⟩ (.string v)) S R o (L.set r (k, v)) ∧ ∃ u, w.heap[R]? = some (.cells #[.int .i64 o, u] 93 (0, 0)) ∧ Only (own u) w ((wr.setCell ⟨g, oo + r * 2, none⟩ (.int .i64 k.toInt)).setCell ⟨g, oo + r * 2 + 1, none⟩ (.string v))) :=
    ⟨⟨_, hR5.out, r5⟩, _, hRh.out, (xe.only).then (o5.mono (fun g' _ (hg : g' = _) => by rw [hg]; rfl))⟩
  generalize L[r].1.toInt = q1 at *
  generalize L[r].2 = q2 at *
  subst z0
  simp only [Nat.zero_add] at e1 e2 f1 f2 fin
  clear xw xe r5 o5 hR5 ejh r1h
  go_wp2
  go_ret
  exact ⟨rfl, fin.out.1, fin.out.2⟩
end
end Go.Proofs.Ytkdfgjdencelkaa

/-
  The document's bough: Put of a new pair.
-/
namespace Go.Proofs.Ytkdfgjdencelkaa
open Go.RowKit
section
set_option maxRecDepth 100000
set_option maxHeartbeats 4000000
theorem qPut_new (w : World) (S : Nat → Prop) (R : Nat) (o : Int) (L : List Pr) (h : RfAt w S R o L) (hl : L.length ≤ 4000000000000) (k : Int64) (v : ByteArray) (hb : (getL (cmpI o) k L).isSome = false) : Calls Try.prog 52 #[.pointer (some ⟨R, 0, none⟩), .int .i64 k.toInt, .string v] w fun e w' => e = .returned (.bool true) ∧ RfAt w' (fun k => w.heap.size ≤ k) R o (putL (cmpI o) k v L) ∧ Only (fun g => g = R) w w' := by
  have Q1 := qAt w _ R o L h k
  rw [hb] at Q1
  simp only [atN, Bool.false_eq_true, if_false] at Q1
  have hpl := put_no v hb
  have hle : rankL (cmpI o) k L ≤ L.length := rankL_le _ _ _
  have Q2 := fun W (x : Drew w W) => qRank W _ R o L (h.ext x.ext) k
  obtain ⟨r, hr⟩ : ∃ r, rankL (cmpI o) k L = r := ⟨_, rfl⟩
  simp only [hr] at Q2 hpl hle
  rw [hpl]
  obtain ⟨u, hR, r1⟩ := h
  obtain ⟨a, n, cap, rfl, hn⟩ := r1.sl.shape
  have hs : Hid (PSl w (.slice a n cap) L) := r1.sl
  have hcap := hs.out.len
  unfold maxLen at hcap
  have hc1 : n ≤ cap := hcap.2.1
  have hc2 : cap ≤ 9223372036854775807 := by omega
  have hrn : r ≤ n := by have := hn.out; omega
  have hln : Hid (L.length = n) := hn.out.symm
  have hRh : Hid (w.heap[R]? = some (.cells #[.int .i64 o, .slice a n cap] 93 (0, 0))) := hR
  obtain ⟨X, hX⟩ : ∃ X, (if cap = r then a else a.map (fun x => x.add (r * 2))) = X := ⟨_, rfl⟩
  have hXh : Hid ((if cap = r then a else a.map (fun x => x.add (r * 2))) = X) := hX
  have hcase : Hid ((cap = r ∧ n = r ∧ X = a) ∨ (¬ cap = r ∧ ∃ g, a = some ⟨g, 0, none⟩ ∧ X = some ⟨g, r * 2, none⟩)) := by
    by_cases hcs : cap = r
    · exact .inl ⟨hcs, by omega, by rw [← hX, if_pos hcs]⟩
    · refine .inr ⟨hcs, ?_⟩
      rcases r1.1.2 with ⟨e9, h0⟩ | ⟨g, cap', cur, e9, _⟩
      · simp only [Value.slice.injEq] at e9
        exfalso; omega
      · simp only [Value.slice.injEq] at e9
        obtain ⟨rfl, _, _⟩ := e9
        refine ⟨g, rfl, ?_⟩
        rw [← hX, if_neg hcs, Option.map_some, Addr.add_lit, Nat.zero_add]
  clear hR r1 hX hb hpl hr hn hcap
  go_enter Try.func52, Try.ntmps52
  go_wp2_with fail
  go_at_call 81
  refine Q1.mono ?_
  rintro _ wq ⟨rfl, xq⟩
  have xqh : Hid (Drew w wq) := xq
  have Q3 := Q2 wq xq
  clear Q1 Q2 xq
  go_wp2_with fail
  go_at_call 55
  refine Q3.mono ?_
  rintro _ wr ⟨rfl, xr⟩
  have xe : Ext w wr := (xqh.out.trans xr).ext
  have d1 : wr.cell? ⟨R, 1, none⟩ = some (.slice a n cap) := xe.cell (cell_of_row _ _ 1 _ _ _ hRh.out)
  have hl1 : (L.take r).length = r := by rw [List.length_take]; omega
  obtain ⟨a5, c5, w5, run5, r5, x5⟩ := pnew 33 (psl_take (m := r) (hs.out.ext xe) hle) (by rw [hl1]; have := hln.out; omega)
  rw [hl1] at run5 r5
  have x5w : Ext w w5 := xe.trans x5
  have y5 := (Ext.refl w5).alloc (.cells #[.int .i64 k.toInt, .string v] 96)
  obtain ⟨a6, c6, w6, run6, r6, o6⟩ := papp (r5.ext y5) 33 (psl_one w5 (k, v) (.int .i64 k.toInt) (.string v) rfl rfl) (by rw [hl1]; simp; have := hln.out; omega)
  simp only [hl1, List.length_singleton] at run6 r6
  have x6w : Ext w w6 := Ext.then (x5w.trans y5) o6 (fun g hg => Nat.le_trans xe.size (r5.2 g hg))
  have d6 : w6.cell? ⟨R, 1, none⟩ = some (.slice a n cap) := x6w.cell (cell_of_row _ _ 1 _ _ _ hRh.out)
  have hl2 : (L.drop r).length = n - r := by rw [List.length_drop]; have := hln.out; omega
  have hl3 : (L.take r ++ [(k, v)]).length = r + 1 := by rw [List.length_append, hl1]; rfl
  obtain ⟨a7, c7, w7, run7, r7, o7⟩ := papp r6 33 (psl_drop (hs.out.ext x6w) r hle X hXh.out) (by rw [hl3, hl2]; have := hln.out; omega)
  rw [hl3, hl2] at run7 r7
  have up6 : ∀ g, own (.slice a6 (r + 1) c6) g → w.heap.size ≤ g := fun g hg => by
    rcases r6.2 g hg with h9 | h9
    · exact Nat.le_trans xe.size (r5.2 g h9)
    · exact Nat.le_trans (x5w.trans y5).size h9
  have x7w : Ext w w7 := Ext.then x6w o7 up6
  have hR7 : w7.heap[R]? = some (.cells #[.int .i64 o, .slice a n cap] 93 (0, 0)) := ext_block x7w hRh.out
  have d7 : w7.cell? ⟨R, 1, none⟩ = some (.slice a n cap) := cell_of_row _ _ 1 _ _ _ hR7
  have f7 := frozen_of_row w7 R 1 _ _ hR7
  obtain ⟨hR8, o8⟩ := setRf w7 R o _ (.slice a7 (r + 1 + (n - r)) c7) hR7
  have fin : Hid (RfAt (w7.setCell ⟨R, 1, none⟩ (.slice a7 (r + 1 + (n - r)) c7)) (fun k => w.heap.size ≤ k) R o (L.take r ++ (k, v) :: L.drop r) ∧ Only (fun g => g = R) w (w7.setCell ⟨R, 1, none⟩ (.slice a7 (r + 1 + (n - r)) c7))) := by
    refine ⟨⟨_, hR8, ?_⟩, x7w.only.then o8⟩
    rw [show L.take r ++ (k, v) :: L.drop r = L.take r ++ [(k, v)] ++ L.drop r by simp]
    refine prow_keep ⟨r7.1, fun g hg => ?_⟩ hR7 o8
    rcases r7.2 g hg with h9 | h9
    · exact up6 g h9
    · exact Nat.le_trans x6w.size h9
  have run5h : Hid _ := run5
  have run6h : Hid _ := run6
  have run7h : Hid _ := run7
  clear xr xe run5 run6 run7 r5 r6 r7 o6 o7 x5 x5w x6w x7w y5 hR7 hR8 o8 hl1 hl2 hl3 up6 Q3 xqh hXh hle hln hRh hs
  rcases hcase.out with ⟨hcs, hns, hXa⟩ | ⟨hcs, g, ea, hXe⟩
  · clear hcase
    subst hXa
    subst hcs
    subst hns
    simp only [Nat.sub_self, Nat.add_zero] at run7h fin f7 d7
    go_wp2_with (at_builtin; refine Hid.out ?_)
    refine Lib.wpList_append_run _ rfl _ _ _ _ rfl _ _ rfl rfl _ _ run5h.out ?_
    go_wp2_with (at_builtin; refine Hid.out ?_)
    refine Lib.wpList_append_run _ rfl _ _ _ _ rfl _ _ rfl rfl _ _ run6h.out ?_
    go_wp2_with (at_builtin; refine Hid.out ?_)
    refine Lib.wpList_append_run _ rfl _ _ _ _ rfl _ _ rfl rfl _ _ run7h.out ?_
    go_wp2
    go_ret
    exact ⟨rfl, fin.out.1, fin.out.2⟩
  · clear hcase
    subst ea
    subst hXe
    go_wp2_with (at_builtin; refine Hid.out ?_)
    refine Lib.wpList_append_run _ rfl _ _ _ _ rfl _ _ rfl rfl _ _ run5h.out ?_
    go_wp2_with (at_builtin; refine Hid.out ?_)
    refine Lib.wpList_append_run _ rfl _ _ _ _ rfl _ _ rfl rfl _ _ run6h.out ?_
    go_wp2_with (at_builtin; refine Hid.out ?_)
    refine Lib.wpList_append_run _ rfl _ _ _ _ rfl _ _ rfl rfl _ _ run7h.out ?_
    go_wp2
    go_ret
    exact ⟨rfl, fin.out.1, fin.out.2⟩
end
end Go.Proofs.Ytkdfgjdencelkaa

/-
  The document's bough: UpTo.
-/
namespace Go.Proofs.Ytkdfgjdencelkaa
open Go.RowKit
section
set_option maxRecDepth 100000
set_option maxHeartbeats 4000000
theorem qUpTo (w : World) (S : Nat → Prop) (R : Nat) (o : Int) (L : List Pr) (h : RfAt w S R o L) (hl : L.length ≤ 4000000000000) (k : Int64) : Calls Try.prog 58 #[.pointer (some ⟨R, 0, none⟩), .int .i64 k.toInt] w fun e w' => ∃ v, e = .returned v ∧ PRow w' (fun k => w.heap.size ≤ k) v (upL (cmpI o) k L) ∧ Ext w w' := by
  obtain ⟨u, hR, r1⟩ := h
  obtain ⟨a, n, cap, rfl, hn⟩ := r1.sl.shape
  have hs : Hid (PSl w (.slice a n cap) L) := r1.sl
  have c0 : Hid (w.cell? ⟨R, 0, none⟩ = some (.int .i64 o)) := cell_of_row _ _ 0 _ _ _ hR
  have c1' : w.cell? ⟨R, 1, none⟩ = some (.slice a n cap) := cell_of_row _ _ 1 _ _ _ hR
  have c1 : Hid (w.cell? ⟨R, 1, none⟩ = some (.slice a n cap)) := c1'
  have hm : n ≤ 4000000000000 := by rw [hn.out]; exact hl
  clear hR r1 hl
  go_enter Try.func58, Try.ntmps58
  go_wp2_with fail
  go_loopw [5, 6] (fun x5 x6 wr => ∃ (p j : Nat) (b : Option Addr) (c : Nat), p ≤ n ∧ j ≤ n - p ∧ x5 = .slice b j c ∧ x6 = .int .i64 ((p : Int) - 1) ∧ Hid (PRow wr (fun k => w.heap.size ≤ k) (.slice b j c) (upL (cmpI o) k (L.drop p)) ∧ (upL (cmpI o) k (L.drop p)).length = j ∧ Ext w wr)) (fun _ x6 _ => (intOf x6 + 1).toNat)
  case atStart => exact ⟨n, 0, none, 0, Nat.le_refl _, by omega, rfl, by go_num, by rw [hn.out, List.drop_length]; exact prow_nil _ _, by rw [hn.out, List.drop_length]; rfl, Ext.refl w⟩
  case round =>
    obtain ⟨p, j, b, c, hp, hj, rfl, rfl, hss⟩ := hrel
    clear c1'
    match p, hp, hj, hss with
    | 0, hp, hj, hss =>
      simp only [List.drop_zero] at hss
      go_wp2
      go_ret
      exact ⟨_, rfl, hss.out.1, hss.out.2.2⟩
    | p + 1, hp, hj, hss =>
      rw [show (((p + 1 : Nat) : Int) - 1) = (p : Int) by omega]
      have hpi : (p : Int) < (n : Int) := by omega
      have hpl : p < L.length := by rw [← hn.out]; omega
      have d0 := hss.out.2.2.cell c0.out
      have d1 := hss.out.2.2.cell c1.out
      obtain ⟨g, oo, rfl, ci, ci2⟩ := (hs.out.ext hss.out.2.2).at p hpl
      obtain ⟨⟨y, yv⟩, hy⟩ : ∃ y, L[p] = y := ⟨_, rfl⟩
      rw [hy] at ci ci2
      have O1 := fun q => Cmp_any (wr.drewN q) o y k
      have hup : Hid (upL (cmpI o) k (L.drop p) = upL (cmpI o) k (L.drop (p + 1)) ++ if cmpI o y k ≤ 0 then [(y, yv)] else []) := by
        show _ = _
        rw [List.drop_eq_getElem_cons hpl, hy]
        unfold upL
        by_cases hz : cmpI o y k ≤ 0
        · rw [List.filter_cons_of_pos (by simpa using hz), if_pos hz]; simp
        · rw [List.filter_cons_of_neg (by simpa using hz), if_neg hz]; simp
      generalize cmpI o y k = cc at *
      have hh : Hid (p + 1 ≤ n ∧ j ≤ n - (p + 1)) := ⟨hp, hj⟩
      by_cases hz : cc ≤ 0
      · rw [if_pos hz] at hup
        go_wp2_with fail
        go_quiet (first | (go_at_call 51; exact Calls.quiet_of_same (O1 _)))
        have xd : Ext wr (wr.drewN nq) := (Ext.refl wr).drewN nq
        have e1 := xd.cell d1
        have ei := xd.cell ci
        have ei2 := xd.cell ci2
        have ssd := hss.out.1.ext xd
        have xxd : Ext w (wr.drewN nq) := hss.out.2.2.trans xd
        have hlj := hss.out.2.1
        clear O1 d0 d1 ci ci2 xd hy hpl hp hj
        generalize wr.drewN nq = wd at *
        have ya := (Ext.refl wd).alloc (.cells #[.int .i64 y.toInt, .string yv] 96)
        obtain ⟨a7, c7, w7, run7, r7, o7⟩ := papp (ssd.ext ya) 33 (psl_one wd (y, yv) (.int .i64 y.toInt) (.string yv) rfl rfl) (by rw [hlj]; simp; have := hh.out; omega)
        simp only [hlj, List.length_singleton] at run7 r7
        have x7 : Ext w w7 := Ext.then (xxd.trans ya) o7 (fun g hg => ssd.2 g hg)
        have fin : Hid (PRow w7 (fun k => w.heap.size ≤ k) (.slice a7 (j + 1) c7) (upL (cmpI o) k (L.drop p)) ∧ (upL (cmpI o) k (L.drop p)).length = j + 1 ∧ Ext w w7) := by
          rw [hup.out]
          refine ⟨⟨r7.1, fun g hg => ?_⟩, by rw [List.length_append, hlj]; rfl, x7⟩
          rcases r7.2 g hg with h9 | h9
          · exact ssd.2 g h9
          · exact Nat.le_trans (xxd.trans ya).size h9
        have run7h : Hid _ := run7
        clear ya run7 r7 o7 ssd xxd x7 hlj
        go_wp2_with (at_builtin; refine Hid.out ?_)
        refine Lib.wpList_append_run _ rfl _ _ _ _ rfl _ _ rfl rfl _ _ run7h.out ?_
        go_wp2
        go_roundw
        case rel => exact ⟨p, j + 1, a7, c7, by have := hh.out; omega, by have := hh.out; omega, rfl, by go_num, fin.out⟩
        case measure => simp [intOf]
      · rw [if_neg hz, List.append_nil] at hup
        have hz2 : decide (cc ≤ 0) = false := decide_eq_false hz
        go_wp2_with fail
        go_quiet (first | (go_at_call 51; exact Calls.quiet_of_same (O1 _)))
        have xd : Ext wr (wr.drewN nq) := (Ext.refl wr).drewN nq
        have fin : Hid (PRow (wr.drewN nq) (fun k => w.heap.size ≤ k) (.slice b j c) (upL (cmpI o) k (L.drop p)) ∧ (upL (cmpI o) k (L.drop p)).length = j ∧ Ext w (wr.drewN nq)) := by
          rw [hup.out]
          exact ⟨hss.out.1.ext xd, hss.out.2.1, hss.out.2.2.trans xd⟩
        go_wp2
        go_roundw
        case rel => exact ⟨p, j, b, c, by have := hh.out; omega, by have := hh.out; omega, rfl, by go_num, fin.out⟩
        case measure => simp [intOf]
end
end Go.Proofs.Ytkdfgjdencelkaa
