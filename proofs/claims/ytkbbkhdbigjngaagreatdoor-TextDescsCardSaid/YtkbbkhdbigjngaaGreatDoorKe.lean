/-
  filter.Check of one filter: cn equal a*.
-/
import Derived.Test.YtkbbkhdbigjngaaGreatDoorKd
import Derived.Laws.EntriesVeiled
namespace Go.Proofs.YtkbbkhdbigjngaaGreatDoor
open Go.RowKit

theorem two_S {w : World} {N D : Nat} (n : w.heap[N]? = some (.cells #[.int .i64 1] 3 (0, 0))) (d : w.heap[D]? = some (.cells #[.int .i64 1] 3 (0, 0))) :
    w.drew.cell? ⟨N, 0, none⟩ = some (.int .i64 1) ∧ w.drew.cell? ⟨D, 0, none⟩ = some (.int .i64 1) ∧ w.drew.frozen? ⟨N, 0, none⟩ = false ∧ w.drew.frozen? ⟨D, 0, none⟩ = false := by
  have a : w.cell? ⟨N, 0, none⟩ = some (.int .i64 1) := cell_of_row _ _ 0 _ _ _ n
  have b : w.cell? ⟨D, 0, none⟩ = some (.int .i64 1) := cell_of_row _ _ 0 _ _ _ d
  have c : w.frozen? ⟨N, 0, none⟩ = false := by simp [World.frozen?, n]
  have e : w.frozen? ⟨D, 0, none⟩ = false := by simp [World.frozen?, d]
  exact ⟨a, b, c, e⟩
theorem results_tcc {fn : Func} {a p q : Tmp} (h : fn.results = #[.tmp a, .cell p 3, .cell q 3]) (tmps : Array Value) (w : World) (g k : Nat) (u v : Value) (hp : tmps.getD p undef = .pointer (some ⟨g, 0, none⟩)) (hq : tmps.getD q undef = .pointer (some ⟨k, 0, none⟩))
    (hc : w.cell? ⟨g, 0, none⟩ = some u) (hd : w.cell? ⟨k, 0, none⟩ = some v) : (results fn tmps).run Tryz.prog w = .ok (.tuple #[tmps.getD a undef, u, v]) w := by
  have hp' : tmps[p]?.getD undef = .pointer (some ⟨g, 0, none⟩) := by simpa using hp
  have hq' : tmps[q]?.getD undef = .pointer (some ⟨k, 0, none⟩) := by simpa using hq
  have hagg := Tryz.isAgg3
  simp [results, h, hp', hq', asAddr, loadVar, Sem.run_bind, hagg, hc, hd, Result.andThen]
set_option maxRecDepth 100000 in
set_option maxHeartbeats 4000000 in
theorem Check_3 (w : World) : Calls Tryz.prog 26 #[.agg #[.int .i8 3, .slice none 0 0, .string ⟨#[99, 110]⟩, .string ⟨#[97, 42]⟩, .string ⟨#[]⟩, .slice none 0 0, .string ⟨#[]⟩, .string ⟨#[]⟩, .bool false]] w fun e w' => e = .returned (.tuple #[.int .i64 0, .int .i64 1, .int .i64 1]) ∧ Ext w w' := by
  have hmix : Tryz.prog.follows Departure.mixedOrders = true := by kernel_rfl
  go_enter Tryz.func26, Tryz.ntmps26
  go_wp2_with fail
  have x0 := (Ext.refl w).alloc (.cells #[.int .i8 3, .slice none 0 0, .string ⟨#[99, 110]⟩, .string ⟨#[97, 42]⟩, .string ⟨#[]⟩, .slice none 0 0, .string ⟨#[]⟩, .string ⟨#[]⟩, .bool false] 42)
  have n1 := heap_alloc_new (w.alloc (.cells #[.int .i8 3, .slice none 0 0, .string ⟨#[99, 110]⟩, .string ⟨#[97, 42]⟩, .string ⟨#[]⟩, .slice none 0 0, .string ⟨#[]⟩, .string ⟨#[]⟩, .bool false] 42)) (.cells #[.int .i64 0] 3)
  rw [World.size_alloc] at n1
  have d2 := heap_alloc_new ((w.alloc (.cells #[.int .i8 3, .slice none 0 0, .string ⟨#[99, 110]⟩, .string ⟨#[97, 42]⟩, .string ⟨#[]⟩, .slice none 0 0, .string ⟨#[]⟩, .string ⟨#[]⟩, .bool false] 42)).alloc (.cells #[.int .i64 0] 3)) (.cells #[.int .i64 0] 3)
  rw [World.size_alloc, World.size_alloc] at d2
  have x2 := (Ext.refl ((w.alloc (.cells #[.int .i8 3, .slice none 0 0, .string ⟨#[99, 110]⟩, .string ⟨#[97, 42]⟩, .string ⟨#[]⟩, .slice none 0 0, .string ⟨#[]⟩, .string ⟨#[]⟩, .bool false] 42)).alloc (.cells #[.int .i64 0] 3))).alloc (.cells #[.int .i64 0] 3)
  have x3 := (Ext.refl (((w.alloc (.cells #[.int .i8 3, .slice none 0 0, .string ⟨#[99, 110]⟩, .string ⟨#[97, 42]⟩, .string ⟨#[]⟩, .slice none 0 0, .string ⟨#[]⟩, .string ⟨#[]⟩, .bool false] 42)).alloc (.cells #[.int .i64 0] 3)).alloc (.cells #[.int .i64 0] 3))).alloc (.cells #[.func (.func 43) #[] #[.pointer (some ⟨w.heap.size + 1, 0, none⟩), .pointer (some ⟨w.heap.size + 1 + 1, 0, none⟩), .pointer (some ⟨w.heap.size + 1 + 1 + 1, 0, none⟩)]] 79)
  have xw : Ext w ((((w.alloc (.cells #[.int .i8 3, .slice none 0 0, .string ⟨#[99, 110]⟩, .string ⟨#[97, 42]⟩, .string ⟨#[]⟩, .slice none 0 0, .string ⟨#[]⟩, .string ⟨#[]⟩, .bool false] 42)).alloc (.cells #[.int .i64 0] 3)).alloc (.cells #[.int .i64 0] 3)).alloc (.cells #[.func (.func 43) #[] #[.pointer (some ⟨w.heap.size + 1, 0, none⟩), .pointer (some ⟨w.heap.size + 1 + 1, 0, none⟩), .pointer (some ⟨w.heap.size + 1 + 1 + 1, 0, none⟩)]] 79)) := ((((Ext.refl w).alloc _).alloc _).alloc _).alloc _
  have n3 := ((x2.trans x3).block (w.heap.size + 1) (Array.getElem?_eq_some_iff.1 n1).1).trans n1
  have d3 := (x3.block (w.heap.size + 1 + 1) (Array.getElem?_eq_some_iff.1 d2).1).trans d2
  clear n1 d2 x2 x3 x0
  generalize ((((w.alloc (.cells #[.int .i8 3, .slice none 0 0, .string ⟨#[99, 110]⟩, .string ⟨#[97, 42]⟩, .string ⟨#[]⟩, .slice none 0 0, .string ⟨#[]⟩, .string ⟨#[]⟩, .bool false] 42)).alloc (.cells #[.int .i64 0] 3)).alloc (.cells #[.int .i64 0] 3)).alloc (.cells #[.func (.func 43) #[] #[.pointer (some ⟨w.heap.size + 1, 0, none⟩), .pointer (some ⟨w.heap.size + 1 + 1, 0, none⟩), .pointer (some ⟨w.heap.size + 1 + 1 + 1, 0, none⟩)]] 79)) = w3 at n3 d3 xw ⊢
  obtain ⟨Nb, hNb⟩ : ∃ Nb, Hid (Nb = w.heap.size + 1) := ⟨_, rfl⟩
  obtain ⟨Db, hDb⟩ : ∃ Db, Hid (Db = w.heap.size + 1 + 1) := ⟨_, rfl⟩
  rw [← hDb.out] at d3 ⊢
  rw [← hNb.out] at n3 ⊢
  have hND : Nb ≠ Db := by have := hNb.out; have := hDb.out; omega
  have hNw : w.heap.size ≤ Nb := by have := hNb.out; omega
  have hDw : w.heap.size ≤ Db := by have := hDb.out; omega
  have hC := Check1_3 w3 Nb Db (Db + 1) n3 d3 hND
  go_at_call 43
  refine hC.mono ?_
  rintro _ w4 ⟨rfl, n4, d4, o4⟩
  have x4 : Ext w w4 := xw.then o4 (fun g hg => by omega)
  clear hC n3 d3 o4 xw
  have nc : w4.cell? ⟨Nb, 0, none⟩ = some (.int .i64 1) := cell_of_row _ _ 0 _ _ _ n4
  have dc : w4.cell? ⟨Db, 0, none⟩ = some (.int .i64 1) := cell_of_row _ _ 0 _ _ _ d4
  have nf : w4.frozen? ⟨Nb, 0, none⟩ = false := by simp [World.frozen?, n4]
  have df : w4.frozen? ⟨Db, 0, none⟩ = false := by simp [World.frozen?, d4]
  have n5 := heap_setCell_at w4 Nb 0 (.int .i64 1) _ _ _ n4
  have o5 := setOnly w4 Nb 0 (.int .i64 1)
  have d5 := (o5.block Db (Array.getElem?_eq_some_iff.1 d4).1 (fun e => hND e.symm)).trans d4
  have d6 := heap_setCell_at (w4.setCell ⟨Nb, 0, none⟩ (.int .i64 1)) Db 0 (.int .i64 1) _ _ _ d5
  have o6 := setOnly (w4.setCell ⟨Nb, 0, none⟩ (.int .i64 1)) Db 0 (.int .i64 1)
  have n6 := (o6.block Nb (Array.getElem?_eq_some_iff.1 n5).1 hND).trans n5
  have x6 : Ext w ((w4.setCell ⟨Nb, 0, none⟩ (.int .i64 1)).setCell ⟨Db, 0, none⟩ (.int .i64 1)) := (x4.then o5 (fun g hg => by omega)).then o6 (fun g hg => by omega)
  have hS5 := two_S n5 d5
  have hS6 := two_S n6 d6
  go_wp2_with fail
  go_region_held3 (fun W => W.cell? ⟨Nb, 0, none⟩ = some (.int .i64 1) ∧ W.cell? ⟨Db, 0, none⟩ = some (.int .i64 1) ∧ W.frozen? ⟨Nb, 0, none⟩ = false ∧ W.frozen? ⟨Db, 0, none⟩ = false) (first | go_keep | exact hS5 | exact hS6) ((fail))
  have x7 := x6.drew
  have c7 := hS6.1
  have e7 := hS6.2.1
  clear hS5 hS6 n5 o5 d5 d6 o6 n6 x6 n4 d4 nc dc nf df x4
  generalize World.drew _ = w7 at x7 c7 e7 ⊢
  go_wp2
  refine bodyPost_ret (results_tcc rfl _ _ Nb Db _ _ rfl rfl c7 e7) rfl ?_
  exact ⟨rfl, x7⟩
end Go.Proofs.YtkbbkhdbigjngaaGreatDoor
