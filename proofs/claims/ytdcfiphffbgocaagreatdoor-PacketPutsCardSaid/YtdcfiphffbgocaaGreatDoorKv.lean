/-
  filter.Check of any filter.
-/
import Derived.Test.YtdcfiphffbgocaaGreatDoorKu
namespace Go.Proofs.YtdcfiphffbgocaaGreatDoor
open Go.RowKit Go.Shelf

theorem cnt_all : ∀ x : FT, CntAll x
  | .nil => trivial
  | .cons a kids rest => ⟨cnt_step a kids (cnt_all kids), cnt_all rest⟩
theorem results_tcc {fn : Func} {a p q : Tmp} (h : fn.results = #[.tmp a, .cell p 3, .cell q 3]) (tmps : Array Value) (w : World) (g k : Nat) (u v : Value) (hp : tmps.getD p undef = .pointer (some ⟨g, 0, none⟩)) (hq : tmps.getD q undef = .pointer (some ⟨k, 0, none⟩))
    (hc : w.cell? ⟨g, 0, none⟩ = some u) (hd : w.cell? ⟨k, 0, none⟩ = some v) : (results fn tmps).run Tryz.prog w = .ok (.tuple #[tmps.getD a undef, u, v]) w := by
  have hp' : tmps[p]?.getD undef = .pointer (some ⟨g, 0, none⟩) := by simpa using hp
  have hq' : tmps[q]?.getD undef = .pointer (some ⟨k, 0, none⟩) := by simpa using hq
  have hagg := Tryz.isAgg3
  simp [results, h, hp', hq', asAddr, loadVar, Sem.run_bind, hagg, hc, hd, Result.andThen]
theorem two_S {w : World} {N D n d : Nat} (hn : NBox w N n) (hd : NBox w D d) :
    w.drew.cell? ⟨N, 0, none⟩ = some (.int .i64 n) ∧ w.drew.cell? ⟨D, 0, none⟩ = some (.int .i64 d) ∧ w.drew.frozen? ⟨N, 0, none⟩ = false ∧ w.drew.frozen? ⟨D, 0, none⟩ = false := ⟨hn.cell.1, hd.cell.1, hn.cell.2, hd.cell.2⟩
set_option maxRecDepth 100000 in
set_option maxHeartbeats 4000000 in
theorem Check_any (w : World) (v : Value) (a : OwnF) (kids : FT) (hv : FV w v a kids) :
    Calls Tryz.prog 48 #[v] w fun e w' => e = .returned (.tuple #[.int .i64 (checkL a kids).1, .int .i64 (checkL a kids).2.1, .int .i64 (checkL a kids).2.2]) ∧ Ext w w' := by
  obtain ⟨f, rfl, hown, hk⟩ := hv
  have hspec := cnt_step a kids (cnt_all kids) w
  have hL : Hid (checkL a kids = if (chk1 a kids 1 0 0).1 = 0 then chk1 a kids 1 0 0 else ((chk1 a kids 1 0 0).1, 0, 0)) := rfl
  have hownh : Hid (FOwn w f a) := hown
  have hkh : Hid (FKids w f kids) := hk
  clear hown hk
  have hcall : ∀ W N D C, Ext w W → w.heap.size ≤ N → w.heap.size ≤ D → w.heap.size ≤ C → NBox W N 0 → NBox W D 0 → CBox W N D C → N ≠ D → Calls Tryz.prog 70 #[.agg f.arr, .int .i64 1, .pointer (some ⟨N, 0, none⟩), .pointer (some ⟨D, 0, none⟩), .pointer (some ⟨C, 0, none⟩)] W fun e w' =>
      e = .returned (.int .i64 (chk1 a kids 1 0 0).1) ∧ NBox w' N (chk1 a kids 1 0 0).2.1 ∧ NBox w' D (chk1 a kids 1 0 0).2.2 ∧ Only (fun g => g = N ∨ g = D) W w' :=
    fun W N D C x h1 h2 h3 b1 b2 b3 hne => hspec W f 1 0 0 N D C x hownh.out hkh.out h1 h2 h3 b1 b2 b3 hne (by decide) (by decide)
  clear hspec hownh hkh
  generalize chk1 a kids 1 0 0 = R at hcall hL
  obtain ⟨e, n, d⟩ := R
  simp only at hcall hL
  obtain ⟨kind, ka, kn, kc, desc, value, start, ma, mn, mc, fin, rule, dn⟩ := f
  simp only [F9.arr] at hcall ⊢
  have hmix : Tryz.prog.follows Departure.mixedOrders = true := by kernel_rfl
  go_enter Tryz.func48, Tryz.ntmps48
  go_wp2_with fail
  have n1 := heap_alloc_new (w.alloc (.cells #[.int .i8 kind, .slice ka kn kc, .string desc, .string value, .string start, .slice ma mn mc, .string fin, .string rule, .bool dn] 27)) (.cells #[.int .i64 0] 3)
  rw [World.size_alloc] at n1
  have d2 := heap_alloc_new ((w.alloc (.cells #[.int .i8 kind, .slice ka kn kc, .string desc, .string value, .string start, .slice ma mn mc, .string fin, .string rule, .bool dn] 27)).alloc (.cells #[.int .i64 0] 3)) (.cells #[.int .i64 0] 3)
  rw [World.size_alloc, World.size_alloc] at d2
  have k3 := heap_alloc_new (((w.alloc (.cells #[.int .i8 kind, .slice ka kn kc, .string desc, .string value, .string start, .slice ma mn mc, .string fin, .string rule, .bool dn] 27)).alloc (.cells #[.int .i64 0] 3)).alloc (.cells #[.int .i64 0] 3)) (.cells #[.func (.func 70) #[] #[.pointer (some ⟨w.heap.size + 1, 0, none⟩), .pointer (some ⟨w.heap.size + 1 + 1, 0, none⟩), .pointer (some ⟨w.heap.size + 1 + 1 + 1, 0, none⟩)]] 118)
  rw [World.size_alloc, World.size_alloc, World.size_alloc] at k3
  have x2 := (Ext.refl ((w.alloc (.cells #[.int .i8 kind, .slice ka kn kc, .string desc, .string value, .string start, .slice ma mn mc, .string fin, .string rule, .bool dn] 27)).alloc (.cells #[.int .i64 0] 3))).alloc (.cells #[.int .i64 0] 3)
  have x3 := (Ext.refl (((w.alloc (.cells #[.int .i8 kind, .slice ka kn kc, .string desc, .string value, .string start, .slice ma mn mc, .string fin, .string rule, .bool dn] 27)).alloc (.cells #[.int .i64 0] 3)).alloc (.cells #[.int .i64 0] 3))).alloc (.cells #[.func (.func 70) #[] #[.pointer (some ⟨w.heap.size + 1, 0, none⟩), .pointer (some ⟨w.heap.size + 1 + 1, 0, none⟩), .pointer (some ⟨w.heap.size + 1 + 1 + 1, 0, none⟩)]] 118)
  have xw : Ext w ((((w.alloc (.cells #[.int .i8 kind, .slice ka kn kc, .string desc, .string value, .string start, .slice ma mn mc, .string fin, .string rule, .bool dn] 27)).alloc (.cells #[.int .i64 0] 3)).alloc (.cells #[.int .i64 0] 3)).alloc (.cells #[.func (.func 70) #[] #[.pointer (some ⟨w.heap.size + 1, 0, none⟩), .pointer (some ⟨w.heap.size + 1 + 1, 0, none⟩), .pointer (some ⟨w.heap.size + 1 + 1 + 1, 0, none⟩)]] 118)) := ((((Ext.refl w).alloc _).alloc _).alloc _).alloc _
  have n3 := ((x2.trans x3).block (w.heap.size + 1) (Array.getElem?_eq_some_iff.1 n1).1).trans n1
  have d3 := (x3.block (w.heap.size + 1 + 1) (Array.getElem?_eq_some_iff.1 d2).1).trans d2
  clear n1 d2 x2 x3
  generalize ((((w.alloc (.cells #[.int .i8 kind, .slice ka kn kc, .string desc, .string value, .string start, .slice ma mn mc, .string fin, .string rule, .bool dn] 27)).alloc (.cells #[.int .i64 0] 3)).alloc (.cells #[.int .i64 0] 3)).alloc (.cells #[.func (.func 70) #[] #[.pointer (some ⟨w.heap.size + 1, 0, none⟩), .pointer (some ⟨w.heap.size + 1 + 1, 0, none⟩), .pointer (some ⟨w.heap.size + 1 + 1 + 1, 0, none⟩)]] 118)) = w3 at n3 d3 k3 xw ⊢
  obtain ⟨Nb, hNb⟩ : ∃ Nb, Hid (Nb = w.heap.size + 1) := ⟨_, rfl⟩
  obtain ⟨Db, hDb⟩ : ∃ Db, Hid (Db = w.heap.size + 1 + 1) := ⟨_, rfl⟩
  obtain ⟨Cb, hCb⟩ : ∃ Cb, Hid (Cb = w.heap.size + 1 + 1 + 1) := ⟨_, rfl⟩
  rw [← hCb.out] at k3 ⊢
  rw [← hDb.out] at d3 k3 ⊢
  rw [← hNb.out] at n3 k3 ⊢
  have hND : Nb ≠ Db := by have := hNb.out; have := hDb.out; omega
  have hNw : w.heap.size ≤ Nb := by have := hNb.out; omega
  have hDw : w.heap.size ≤ Db := by have := hDb.out; omega
  have hCw : w.heap.size ≤ Cb := by have := hCb.out; omega
  have hC := hcall w3 Nb Db Cb xw hNw hDw hCw n3 d3 k3 hND
  clear hcall
  go_at_call 70
  refine hC.mono ?_
  rintro _ w4 ⟨rfl, n4, d4, o4⟩
  have x4 : Ext w w4 := xw.then o4 (fun g hg => by omega)
  clear hC n3 d3 k3 o4 xw
  obtain ⟨nc, nf⟩ := n4.cell
  obtain ⟨dc, df⟩ := d4.cell
  by_cases he : e = 0
  · subst he
    have n5 := n4.set n
    have o5 := setOnly w4 Nb 0 (.int .i64 (n : Int))
    have d5 := d4.only o5 (fun e => hND e.symm)
    have d6 := d5.set d
    have o6 := setOnly (w4.setCell ⟨Nb, 0, none⟩ (.int .i64 (n : Int))) Db 0 (.int .i64 (d : Int))
    have n6 := n5.only o6 hND
    have x6 : Ext w ((w4.setCell ⟨Nb, 0, none⟩ (.int .i64 (n : Int))).setCell ⟨Db, 0, none⟩ (.int .i64 (d : Int))) := (x4.then o5 (fun g hg => by omega)).then o6 (fun g hg => by omega)
    have hS5 := two_S n5 d5
    have hS6 := two_S n6 d6
    have hL2 : Hid (checkL a kids = (0, n, d)) := by show _ = _; rw [hL.out, if_pos rfl]
    clear hL
    go_wp2_with fail
    go_region_held3 (fun W => W.cell? ⟨Nb, 0, none⟩ = some (.int .i64 n) ∧ W.cell? ⟨Db, 0, none⟩ = some (.int .i64 d) ∧ W.frozen? ⟨Nb, 0, none⟩ = false ∧ W.frozen? ⟨Db, 0, none⟩ = false) (first | go_keep | exact hS5 | exact hS6) ((fail))
    have x7 := x6.drew
    have c7 := hS6.1
    have e7 := hS6.2.1
    clear hS5 hS6 n5 o5 d5 d6 o6 n6 x6 n4 d4 nc dc nf df x4
    generalize World.drew _ = w7 at x7 c7 e7 ⊢
    go_wp2
    refine bodyPost_ret (results_tcc rfl _ _ Nb Db _ _ rfl rfl c7 e7) rfl ?_
    rw [hL2.out]
    exact ⟨rfl, x7⟩
  · have he' : ((e : Int) != 0) = true := by simp; omega
    have n5 := n4.set 0
    have o5 := setOnly w4 Nb 0 (.int .i64 ((0 : Nat) : Int))
    have d5 := d4.only o5 (fun e => hND e.symm)
    have d6 := d5.set 0
    have o6 := setOnly (w4.setCell ⟨Nb, 0, none⟩ (.int .i64 ((0 : Nat) : Int))) Db 0 (.int .i64 ((0 : Nat) : Int))
    have n6 := n5.only o6 hND
    have x6 : Ext w ((w4.setCell ⟨Nb, 0, none⟩ (.int .i64 ((0 : Nat) : Int))).setCell ⟨Db, 0, none⟩ (.int .i64 ((0 : Nat) : Int))) := (x4.then o5 (fun g hg => by omega)).then o6 (fun g hg => by omega)
    obtain ⟨c7, _⟩ := n6.cell
    obtain ⟨e7, _⟩ := d6.cell
    have hL2 : Hid (checkL a kids = (e, 0, 0)) := by show _ = _; rw [hL.out, if_neg he]
    clear hL he
    go_wp2
    refine bodyPost_ret (results_tcc rfl _ _ Nb Db _ _ rfl rfl c7 e7) rfl ?_
    rw [hL2.out]
    exact ⟨rfl, x6⟩
end Go.Proofs.YtdcfiphffbgocaaGreatDoor
