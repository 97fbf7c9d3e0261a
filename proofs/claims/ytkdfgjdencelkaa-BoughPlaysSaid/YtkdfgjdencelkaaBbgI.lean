/-
  A bough's calls. (Made by gen/mk12.py out of g/Bbg.)
-/
import Derived.Test.YtkdfgjdencelkaaBdlI
import Derived.Deep.LoopGhost
namespace Go.Proofs.Ytkdfgjdencelkaa.BI
open Go.RowKit Go.Shelf
/-- a bough in memory -/
def BgAt (cb : Nat) (o : Int) (w : World) (B : Nat) (t : Tr Int64 Int64) : Prop := ∃ q, w.heap[B]? = some (.cells #[(.func (.func 50) #[] #[.pointer (some ⟨cb, 0, none⟩)]), .pointer q] 112 (0, 0)) ∧ Nd w t (.pointer q) ∧ CP cb o w
theorem BgAt.ext {cb : Nat} {o : Int} {w w' : World} {B : Nat} {t : Tr Int64 Int64} (h : BgAt cb o w B t) (x : Ext w w') : BgAt cb o w' B t := by
  obtain ⟨q, h1, h2, h3⟩ := h
  exact ⟨q, ext_block x h1, h2.ext x, h3.ext x⟩
section
set_option maxRecDepth 100000
set_option maxHeartbeats 1000000
theorem eq_nilf (fn : Fn) (a b : Array Value) (w : World) : (binOp .eql 25 (.func fn a b) .nilFunc).run Try.prog w = .ok (.bool false) w := by
  have hu : Try.prog.underlying 25 = _ := Try.underlying25
  have h : ∀ d : Nat, (Op.equalIn (d + 1) 25 (.func fn a b) .nilFunc).run Try.prog w = .ok false w := fun d => by
    simp [Op.equalIn, run_underlying hu]
  simp only [binOp]
  simp [Op.equal, Op.maxDepth, h 9999]
theorem New_any (cb : Nat) (o : Int) (w : World) (hc : CP cb o w) : Calls Try.prog 30 #[(.func (.func 50) #[] #[.pointer (some ⟨cb, 0, none⟩)])] w fun e w' => e = .returned (.pointer (some ⟨w.heap.size, 0, none⟩)) ∧ BgAt cb o w' w.heap.size .nil ∧ Ext w w' ∧ w.heap.size < w'.heap.size := by
  have hn := eq_nilf (.func 50) #[] #[.pointer (some ⟨cb, 0, none⟩)]
  go_enter Try.func30, Try.ntmps30
  go_wp2
  go_ret
  have x := (Ext.refl w).alloc (.cells #[(.func (.func 50) #[] #[.pointer (some ⟨cb, 0, none⟩)]), .pointer none] 112)
  exact ⟨rfl, ⟨none, heap_alloc_new _ _, rfl, hc.ext x⟩, x, by simp⟩
theorem nodes_none (w : World) : Calls Try.prog 72 #[.pointer none] w fun e w' => e = .returned (.pointer none) ∧ w' = w := by
  go_enter Try.func72, Try.ntmps72
  go_wp2
  go_ret
  exact ⟨rfl, rfl⟩
theorem nodes_any (w : World) (B : Nat) (q : Option Addr) (c : w.cell? ⟨B, 1, none⟩ = some (.pointer q)) : Calls Try.prog 72 #[.pointer (some ⟨B, 0, none⟩)] w fun e w' => e = .returned (.pointer q) ∧ w' = w := by
  go_enter Try.func72, Try.ntmps72
  go_wp2
  go_ret
  exact ⟨rfl, rfl⟩
theorem Len_any (cb : Nat) (o : Int) (w : World) (B : Nat) (t : Tr Int64 Int64) (h : BgAt cb o w B t) : Calls Try.prog 36 #[.pointer (some ⟨B, 0, none⟩)] w fun e w' => e = .returned (.int .i64 (t.cnt : Nat)) ∧ w' = w := by
  obtain ⟨q, hB, hn, _⟩ := h
  have c1 : w.cell? ⟨B, 1, none⟩ = some (.pointer q) := cell_of_row _ _ 1 _ _ _ hB
  have N1 := nodes_any w B q c1
  have M1 := many_any w t _ hn
  clear hB hn c1
  go_enter Try.func36, Try.ntmps36
  go_wp2_with fail
  go_at_call 72
  refine N1.mono ?_
  rintro _ w ⟨rfl, rfl⟩
  go_wp2_with fail
  go_at_call 69
  refine M1.mono ?_
  rintro _ w ⟨rfl, rfl⟩
  go_wp2
  go_ret
  exact ⟨rfl, rfl⟩
theorem Len_none (w : World) : Calls Try.prog 36 #[.pointer none] w fun e w' => e = .returned (.int .i64 0) ∧ w' = w := by
  have N1 := nodes_none w
  have M1 := many_any w .nil _ rfl
  go_enter Try.func36, Try.ntmps36
  go_wp2_with fail
  go_at_call 72
  refine N1.mono ?_
  rintro _ w ⟨rfl, rfl⟩
  go_wp2_with fail
  go_at_call 69
  refine M1.mono ?_
  rintro _ w ⟨rfl, rfl⟩
  go_wp2
  go_ret
  exact ⟨rfl, rfl⟩
/-- what Get answers -/
def getO (x : Option (Int64 × Int64)) : Value := match x with
  | some p => .tuple #[I6 p.2, .bool true]
  | none => .tuple #[.int .i64 0, .bool false]
theorem Get_any (cb : Nat) (o : Int) (w : World) (B : Nat) (t : Tr Int64 Int64) (h : BgAt cb o w B t) (k : Int64) : Calls Try.prog 42 #[.pointer (some ⟨B, 0, none⟩), .int .i64 (k).toInt] w fun e w' => e = .returned (getO (t.get (cmpI o) k)) ∧ Ext w w' := by
  obtain ⟨q, hB, hn, hcp⟩ := h
  have c0 : Hid (w.cell? ⟨B, 0, none⟩ = some (.func (.func 50) #[] #[.pointer (some ⟨cb, 0, none⟩)])) := cell_of_row _ _ 0 _ _ _ hB
  have c1 : w.cell? ⟨B, 1, none⟩ = some (.pointer q) := cell_of_row _ _ 1 _ _ _ hB
  have N1 := nodes_any w B q c1
  have hnh : Hid (Nd w t (.pointer q)) := hn
  have hcph : Hid (CP cb o w) := hcp
  have hw1 : IntKind.i64.wrap 1 = 1 := by decide
  have hw0 : IntKind.i64.wrap 0 = 0 := by decide
  clear hB hn c1 hcp
  go_enter Try.func42, Try.ntmps42
  go_wp2_with fail
  go_at_call 72
  refine N1.mono ?_
  rintro _ w ⟨rfl, rfl⟩
  clear N1
  go_wp2_with fail
  go_loopg [6] (t.cnt + 1) (fun n x6 wr => ∃ u q, x6 = .pointer q ∧ Hid (Nd wr u (.pointer q) ∧ u.cnt < n ∧ t.get (cmpI o) k = u.get (cmpI o) k) ∧ Hid (Ext w wr))
  case atStart => exact ⟨t, q, rfl, ⟨hnh.out, by omega, rfl⟩, Ext.refl w⟩
  case round =>
    obtain ⟨u, q, rfl, hu, xw⟩ := hrel
    cases u with
    | nil =>
      obtain rfl : q = none := by have := hu.out.1; cases this; rfl
      go_wp2
      go_ret2
      refine ⟨?_, xw.out.alloc _⟩
      rw [hu.out.2.2]
      rfl
    | nd l k' v' r =>
      obtain ⟨⟨b, pl, pr, e, hb, hl, hr⟩, hcnt, hget⟩ := hu.out
      cases e
      obtain ⟨ql, rfl⟩ := hl.shape
      obtain ⟨qr, rfl⟩ := hr.shape
      have hlh : Hid (Nd wr l (.pointer ql)) := hl
      have hrh : Hid (Nd wr r (.pointer qr)) := hr
      obtain ⟨d0, d1, _, d3, d4⟩ := node_cells hb
      simp only [I6, I6] at d0 d1
      have b0 := xw.out.cell c0.out
      have hcm := cmp_any cb o wr.drew (hcph.out.ext (xw.out.drew)) k k'
      have hg : Hid (t.get (cmpI o) k = if (cmpI o) k k' = 0 then some (k', v') else if (cmpI o) k k' < 0 then l.get (cmpI o) k else r.get (cmpI o) k) := hget
      have hcn : Hid (l.cnt + r.cnt + 1 < gk) := hcnt
      clear hu hb hl hr hcnt hget
      generalize (cmpI o) k k' = c at *
      go_wp2_with fail
      go_region_held3 (fun W => W.cell? ⟨B, 0, none⟩ = some (.func (.func 50) #[] #[.pointer (some ⟨cb, 0, none⟩)]) ∧ W.cell? ⟨b, 0, none⟩ = some (.int .i64 (k').toInt)) (go_keep) ((go_at_call 50; refine hcm.mono ?_; rintro _ _ ⟨rfl, rfl⟩))
      have xd : Hid (Ext wr wr.drew) := (Ext.refl wr).drew
      have e1 : wr.drew.cell? ⟨b, 1, none⟩ = some (.int .i64 (v').toInt) := d1
      have e3 : wr.drew.cell? ⟨b, 3, none⟩ = some (.pointer ql) := d3
      have e4 : wr.drew.cell? ⟨b, 4, none⟩ = some (.pointer qr) := d4
      clear hcm d0 d1 d3 d4 b0
      generalize wr.drew = wd at *
      by_cases hz : c = 0
      · have hg2 : Hid (t.get (cmpI o) k = some (k', v')) := by show _ = _; rw [hg.out, if_pos hz]
        subst hz
        clear hg
        go_wp2
        go_ret2
        refine ⟨?_, xw.out.trans xd.out⟩
        rw [hg2.out]
        rfl
      · have hzb : (c == 0) = false := by simpa using hz
        have HS := sideOf_any wd.drew c
        by_cases hlt : c < 0
        · have hs : sd (!decide (c < 0)) = 0 := by simp [sd, hlt]
          rw [hs] at HS
          have hg2 : Hid (t.get (cmpI o) k = l.get (cmpI o) k) := by show _ = _; rw [hg.out, if_neg hz, if_pos hlt]
          clear hg hs
          go_wp2_with fail
          go_region_held3 (fun W => W.cell? ⟨b, 3, none⟩ = some (.pointer ql) ∧ W.cell? ⟨b, 4, none⟩ = some (.pointer qr)) (go_keep) ((go_at_call 67; refine HS.mono ?_; rintro _ _ ⟨rfl, rfl⟩))
          all_goals go_wp2
          all_goals go_roundg (l.cnt + 1)
          case measure => have := hcn.out; omega
          case rel => exact ⟨l, ql, rfl, ⟨hlh.out.ext (xd.out.trans (Ext.refl wd).drew), by omega, hg2.out⟩, xw.out.trans (xd.out.trans (Ext.refl wd).drew)⟩
        · have hs : sd (!decide (c < 0)) = 1 := by simp [sd, hlt]
          rw [hs] at HS
          have hg2 : Hid (t.get (cmpI o) k = r.get (cmpI o) k) := by show _ = _; rw [hg.out, if_neg hz, if_neg hlt]
          clear hg hs
          go_wp2_with fail
          go_region_held3 (fun W => W.cell? ⟨b, 3, none⟩ = some (.pointer ql) ∧ W.cell? ⟨b, 4, none⟩ = some (.pointer qr)) (go_keep) ((go_at_call 67; refine HS.mono ?_; rintro _ _ ⟨rfl, rfl⟩))
          all_goals go_wp2
          all_goals go_roundg (r.cnt + 1)
          case measure => have := hcn.out; omega
          case rel => exact ⟨r, qr, rfl, ⟨hrh.out.ext (xd.out.trans (Ext.refl wd).drew), by omega, hg2.out⟩, xw.out.trans (xd.out.trans (Ext.refl wd).drew)⟩
theorem Get_none (w : World) (k : Int64) : Calls Try.prog 42 #[.pointer none, .int .i64 (k).toInt] w fun e w' => e = .returned (getO none) ∧ Ext w w' := by
  have N1 := nodes_none w
  go_enter Try.func42, Try.ntmps42
  go_wp2_with fail
  go_at_call 72
  refine N1.mono ?_
  rintro _ w ⟨rfl, rfl⟩
  clear N1
  go_wp2_with fail
  go_loopg [6] 1 (fun _ x6 wr => x6 = .pointer none ∧ Hid (Ext w wr))
  case atStart => exact ⟨rfl, Ext.refl w⟩
  case round =>
    obtain ⟨rfl, xw⟩ := hrel
    go_wp2
    go_ret2
    exact ⟨rfl, xw.out.alloc _⟩
theorem setTop (cb : Nat) (o : Int) (w : World) (B : Nat) (q q' : Option Addr) (t' : Tr Int64 Int64) (hB : w.heap[B]? = some (.cells #[(.func (.func 50) #[] #[.pointer (some ⟨cb, 0, none⟩)]), .pointer q] 112 (0, 0))) (hn : Nd w t' (.pointer q')) (hcp : CP cb o w) :
    BgAt cb o (w.setCell ⟨B, 1, none⟩ (.pointer q')) B t' ∧ Only (fun g => g = B) w (w.setCell ⟨B, 1, none⟩ (.pointer q')) := by
  have ho : Only (fun g => g = B) w (w.setCell ⟨B, 1, none⟩ (.pointer q')) := (Only.refl (fun g => g = B) w).setCell (p := ⟨B, 1, none⟩) (.inl rfl) _
  refine ⟨⟨q', heap_setCell_at w B 1 (.pointer q') _ _ _ hB, hn.only ho (fun g c fz hg h => ?_), ?_⟩, ho⟩
  · subst hg
    rw [hB] at h
    simp only [Option.some.injEq, Obj.cells.injEq] at h
    exact absurd h.2.1 (by decide)
  · have hc0 : w.cell? ⟨B, 0, none⟩ = some (.func (.func 50) #[] #[.pointer (some ⟨cb, 0, none⟩)]) := cell_of_row _ _ 0 _ _ _ hB
    exact ho.cell hcp (fun e => by
      have e' : cb = B := e
      unfold CP at hcp
      rw [e', hc0] at hcp
      cases hcp)
theorem Put_any (cb : Nat) (o : Int) (w : World) (B : Nat) (t : Tr Int64 Int64) (h : BgAt cb o w B t) (k : Int64) (v : Int64) (hcnt : t.cnt ≤ 100000000000000) :
    Calls Try.prog 32 #[.pointer (some ⟨B, 0, none⟩), .int .i64 (k).toInt, .int .i64 (v).toInt] w fun e w' => e = .returned (.bool (decide (t.cnt < (t.put (cmpI o) k v).cnt))) ∧ BgAt cb o w' B (t.put (cmpI o) k v) ∧ Only (fun g => g = B) w w' := by
  obtain ⟨q, hB, hn, hcp⟩ := h
  have c0 : w.cell? ⟨B, 0, none⟩ = some (.func (.func 50) #[] #[.pointer (some ⟨cb, 0, none⟩)]) := cell_of_row _ _ 0 _ _ _ hB
  have c1 : w.cell? ⟨B, 1, none⟩ = some (.pointer q) := cell_of_row _ _ 1 _ _ _ hB
  have P1 := put_any cb o k v t w (.pointer q) hn hcp hcnt
  have hBh : Hid (w.heap[B]? = some (.cells #[(.func (.func 50) #[] #[.pointer (some ⟨cb, 0, none⟩)]), .pointer q] 112 (0, 0))) := hB
  have hnh : Hid (Nd w t (.pointer q)) := hn
  have hcph : Hid (CP cb o w) := hcp
  clear hB hn hcp hcnt
  go_enter Try.func32, Try.ntmps32
  go_wp2_with fail
  go_at_call 70
  refine P1.mono ?_
  rintro _ w1 ⟨g, rfl, n1, x1⟩
  have hB1 := ext_block x1 hBh.out
  have e1 : w1.cell? ⟨B, 1, none⟩ = some (.pointer q) := cell_of_row _ _ 1 _ _ _ hB1
  have f1 := frozen_of_row w1 B 1 _ _ hB1
  obtain ⟨s1, o1⟩ := setTop cb o w1 B q (some ⟨g, 0, none⟩) _ hB1 n1 (hcph.out.ext x1)
  have n0 : Nd (w1.setCell ⟨B, 1, none⟩ (.pointer (some ⟨g, 0, none⟩))) t (.pointer q) := (hnh.out.ext x1).only o1 (fun g c fz hg h => by
    have hg' : g = B := hg
    rw [hg', hB1] at h
    simp only [Option.some.injEq, Obj.cells.injEq] at h
    exact absurd h.2.1 (by decide))
  obtain ⟨q2, hB2, hn2, hcp2⟩ := s1
  have m1 := many_any _ _ _ hn2
  have m0 := many_any _ _ _ n0
  have d1 : (w1.setCell ⟨B, 1, none⟩ (.pointer (some ⟨g, 0, none⟩))).cell? ⟨B, 1, none⟩ = some (.pointer q2) := cell_of_row _ _ 1 _ _ _ hB2
  have hs : Hid (BgAt cb o (w1.setCell ⟨B, 1, none⟩ (.pointer (some ⟨g, 0, none⟩))) B (t.put (cmpI o) k v)) := ⟨q2, hB2, hn2, hcp2⟩
  have o2 : Hid (Only (fun g => g = B) w (w1.setCell ⟨B, 1, none⟩ (.pointer (some ⟨g, 0, none⟩)))) := (x1.only).then o1
  clear P1 c0 c1 hB1 n1 n0 o1 hn2 hcp2 hB2
  go_wp2_with fail
  generalize (w1.setCell ⟨B, 1, none⟩ (.pointer (some ⟨g, 0, none⟩))) = w2 at *
  obtain ⟨n1, hn1⟩ : ∃ n, (t.put (cmpI o) k v).cnt = n := ⟨_, rfl⟩
  obtain ⟨n0, hn0⟩ : ∃ n, t.cnt = n := ⟨_, rfl⟩
  have hn1h : Hid ((t.put (cmpI o) k v).cnt = n1) := hn1
  have hn0h : Hid (t.cnt = n0) := hn0
  rw [hn1] at m1
  rw [hn0] at m0
  clear hn1 hn0
  go_at_call 69
  refine m1.mono ?_
  rintro _ w2 ⟨rfl, rfl⟩
  go_wp2_with fail
  go_at_call 69
  refine m0.mono ?_
  rintro _ w2 ⟨rfl, rfl⟩
  go_wp2
  go_ret
  refine ⟨?_, hs.out, o2.out⟩
  rw [hn1h.out, hn0h.out]
  simp
theorem Del_any (cb : Nat) (o : Int) (w : World) (B : Nat) (t : Tr Int64 Int64) (h : BgAt cb o w B t) (k : Int64) (hcnt : t.cnt ≤ 100000000000000) :
    Calls Try.prog 31 #[.pointer (some ⟨B, 0, none⟩), .int .i64 (k).toInt] w fun e w' => e = .returned (.bool (decide ((t.del (cmpI o) k).cnt < t.cnt))) ∧ BgAt cb o w' B (t.del (cmpI o) k) ∧ Only (fun g => g = B) w w' := by
  obtain ⟨q, hB, hn, hcp⟩ := h
  have c0 : w.cell? ⟨B, 0, none⟩ = some (.func (.func 50) #[] #[.pointer (some ⟨cb, 0, none⟩)]) := cell_of_row _ _ 0 _ _ _ hB
  have c1 : w.cell? ⟨B, 1, none⟩ = some (.pointer q) := cell_of_row _ _ 1 _ _ _ hB
  have P1 := del_any cb o k t w q hn hcp hcnt
  have hBh : Hid (w.heap[B]? = some (.cells #[(.func (.func 50) #[] #[.pointer (some ⟨cb, 0, none⟩)]), .pointer q] 112 (0, 0))) := hB
  have hnh : Hid (Nd w t (.pointer q)) := hn
  have hcph : Hid (CP cb o w) := hcp
  clear hB hn hcp hcnt
  go_enter Try.func31, Try.ntmps31
  go_wp2_with fail
  go_at_call 68
  refine P1.mono ?_
  rintro _ w1 ⟨g, rfl, n1, x1, _⟩
  have hB1 := ext_block x1 hBh.out
  have e1 : w1.cell? ⟨B, 1, none⟩ = some (.pointer q) := cell_of_row _ _ 1 _ _ _ hB1
  have f1 := frozen_of_row w1 B 1 _ _ hB1
  obtain ⟨s1, o1⟩ := setTop cb o w1 B q g _ hB1 n1 (hcph.out.ext x1)
  have n0 : Nd (w1.setCell ⟨B, 1, none⟩ (.pointer g)) t (.pointer q) := (hnh.out.ext x1).only o1 (fun g c fz hg h => by
    have hg' : g = B := hg
    rw [hg', hB1] at h
    simp only [Option.some.injEq, Obj.cells.injEq] at h
    exact absurd h.2.1 (by decide))
  obtain ⟨q2, hB2, hn2, hcp2⟩ := s1
  have m1 := many_any _ _ _ hn2
  have m0 := many_any _ _ _ n0
  have d1 : (w1.setCell ⟨B, 1, none⟩ (.pointer g)).cell? ⟨B, 1, none⟩ = some (.pointer q2) := cell_of_row _ _ 1 _ _ _ hB2
  have hs : Hid (BgAt cb o (w1.setCell ⟨B, 1, none⟩ (.pointer g)) B (t.del (cmpI o) k)) := ⟨q2, hB2, hn2, hcp2⟩
  have o2 : Hid (Only (fun g => g = B) w (w1.setCell ⟨B, 1, none⟩ (.pointer g))) := (x1.only).then o1
  clear P1 c0 c1 hB1 n1 n0 o1 hn2 hcp2 hB2
  go_wp2_with fail
  generalize (w1.setCell ⟨B, 1, none⟩ (.pointer g)) = w2 at *
  obtain ⟨n1, hn1⟩ : ∃ n, (t.del (cmpI o) k).cnt = n := ⟨_, rfl⟩
  obtain ⟨n0, hn0⟩ : ∃ n, t.cnt = n := ⟨_, rfl⟩
  have hn1h : Hid ((t.del (cmpI o) k).cnt = n1) := hn1
  have hn0h : Hid (t.cnt = n0) := hn0
  rw [hn1] at m1
  rw [hn0] at m0
  clear hn1 hn0
  go_at_call 69
  refine m1.mono ?_
  rintro _ w2 ⟨rfl, rfl⟩
  go_wp2_with fail
  go_at_call 69
  refine m0.mono ?_
  rintro _ w2 ⟨rfl, rfl⟩
  go_wp2
  go_ret
  refine ⟨?_, hs.out, o2.out⟩
  rw [hn1h.out, hn0h.out]
  simp
theorem Put_none (w : World) (k : Int64) (v : Int64) : Calls Try.prog 32 #[.pointer none, .int .i64 (k).toInt, .int .i64 (v).toInt] w fun e w' => e = .returned (.bool false) ∧ w' = w := by
  go_enter Try.func32, Try.ntmps32
  go_wp2
  go_ret
  exact ⟨rfl, rfl⟩
theorem Del_none (w : World) (k : Int64) : Calls Try.prog 31 #[.pointer none, .int .i64 (k).toInt] w fun e w' => e = .returned (.bool false) ∧ w' = w := by
  go_enter Try.func31, Try.ntmps31
  go_wp2
  go_ret
  exact ⟨rfl, rfl⟩
end
end Go.Proofs.Ytkdfgjdencelkaa.BI
