/-
  rosterlaw10.told of a fault; text.Parse at the law's two texts.
-/
import Derived.Test.YtffaenlbdapleaaGreatDoorTq
namespace Go.Proofs.YtffaenlbdapleaaGreatDoor
open Go.RowKit

/-- what the variable errors.errorType holds -/
def ErrT (w : World) : Prop := w.cell? ⟨0, 0, none⟩ = some (.iface 110 (.agg #[.pointer (some ⟨5, 33, none⟩)]))
theorem ErrT.ext {w w' : World} (h : ErrT w) (x : Ext w w') : ErrT w' := x.cell h
theorem FtAt.cells {w : World} {g c p : Nat} {wd : ByteArray} (h : FtAt w g c p wd) : w.cell? ⟨g, 0, none⟩ = some (.int .i64 c) ∧ w.cell? ⟨g, 1, none⟩ = some (.int .i64 p) ∧ w.cell? ⟨g, 2, none⟩ = some (.string wd) ∧ (∀ j, w.frozen? ⟨g, j, none⟩ = false) :=
  ⟨cell_of_row _ _ 0 _ _ _ h, cell_of_row _ _ 1 _ _ _ h, cell_of_row _ _ 2 _ _ _ h, fun j => by simp [World.frozen?, show w.heap[g]? = _ from h]⟩
theorem results_ft {fn : Func} {pp u : Tmp} {ty : TypeId} (h : fn.results = #[.cell pp ty, .tmp u]) (tmps : Array Value) (w : World) (g c p : Nat) (wd : ByteArray) (hty : ty = 29) (hp : tmps.getD pp undef = .pointer (some ⟨g, 0, none⟩)) (hc : FtAt w g c p wd) : (results fn tmps).run Tryz.prog w = .ok (.tuple #[.agg #[.int .i64 c, .int .i64 p, .string wd], tmps.getD u undef]) w := by
  subst hty
  have hl := run_loadCells_list (P := Tryz.prog) w ⟨g, 0, none⟩ [.int .i64 c, .int .i64 p, .string wd] (by
    intro j v hv
    rw [Addr.add_lit, Nat.zero_add, cell_of_row _ _ j _ _ _ hc]
    simpa using hv)
  have hl3 : (loadCells ⟨g, 0, none⟩ 3).run Tryz.prog w = .ok #[.int .i64 c, .int .i64 p, .string wd] w := hl
  have hag := Tryz.isAgg29
  have hsz : ∀ w, (sizeOf 29).run Tryz.prog w = .ok 3 w := Tryz.sizeOf29
  rw [results_cell_tmp h, hp]
  simp [asAddr, loadVar, Sem.run_bind, hag, hsz, hl3, Result.andThen]

set_option maxRecDepth 100000 in
set_option maxHeartbeats 2000000 in
theorem told_hit (w : World) (ge c a : Nat) (wd : ByteArray) (he : ErrT w) (hf : FtAt w ge c a wd) (hc : c ≠ 0) :
    Calls Tryz.prog 10 #[errV ge] w fun e w' => e = .returned (.tuple #[.agg #[.int .i64 c, .int .i64 a, .string wd], .bool true]) ∧ Ext w w' := by
  have hci : ((c : Int) == 0) = false := by simp; omega
  have hgl : ge < w.heap.size := (Array.getElem?_eq_some_iff.1 hf).1
  have z0 := heap_alloc_new w (.cells #[.int .i64 0, .int .i64 0, .string ⟨#[]⟩] 29)
  have x0 := (Ext.refl w).alloc (.cells #[.int .i64 0, .int .i64 0, .string ⟨#[]⟩] 29)
  have v1 := heap_alloc_new (w.alloc (.cells #[.int .i64 0, .int .i64 0, .string ⟨#[]⟩] 29)) (.cells #[.pointer none] 54)
  have x1 := (Ext.refl (w.alloc (.cells #[.int .i64 0, .int .i64 0, .string ⟨#[]⟩] 29))).alloc (.cells #[.pointer none] 54)
  have z1 : FtAt ((w.alloc (.cells #[.int .i64 0, .int .i64 0, .string ⟨#[]⟩] 29)).alloc (.cells #[.pointer none] 54)) w.heap.size 0 0 ⟨#[]⟩ := FtAt.ext z0 x1
  rw [World.size_alloc] at v1
  have x1w := x0.trans x1
  have e1 := hf.ext x1w
  have g1 := he.ext x1w
  have t1 : ((w.alloc (.cells #[.int .i64 0, .int .i64 0, .string ⟨#[]⟩] 29)).alloc (.cells #[.pointer none] 54)).cell? ⟨w.heap.size + 1, 0, none⟩ = some (.pointer none) := cell_of_row _ _ 0 _ _ _ v1
  have f1 : ((w.alloc (.cells #[.int .i64 0, .int .i64 0, .string ⟨#[]⟩] 29)).alloc (.cells #[.pointer none] 54)).frozen? ⟨w.heap.size + 1, 0, none⟩ = false := by simp
  have hA := as_hit ⟨ge, 0, none⟩ ⟨w.heap.size + 1, 0, none⟩ _ _ g1 t1 f1
  clear x0 x1 z0 he hf hc t1 f1 g1
  unfold errV
  go_enter Tryz.func10, Tryz.ntmps10
  go_wp2_with fail
  go_at_call 24
  refine hA.mono ?_
  rintro _ w3 ⟨rfl, o3, w2, x2, hw3⟩
  have v3 : w3.heap[w.heap.size + 1]? = some (.cells #[.pointer (some ⟨ge, 0, none⟩)] 54 (0, 0)) := by
    rw [hw3]
    exact heap_setCell_at w2 (w.heap.size + 1) 0 _ _ _ _ ((x2.block (w.heap.size + 1) (Array.getElem?_eq_some_iff.1 v1).1).trans v1)
  have z3 := z1.only o3 (by omega)
  have e3 := e1.only o3 (by omega)
  have x3w : Ext w w3 := x1w.then o3 (fun g hg => by omega)
  clear hw3 x2 o3 hA v1 z1 e1 x1w
  have cv : w3.cell? ⟨w.heap.size + 1, 0, none⟩ = some (.pointer (some ⟨ge, 0, none⟩)) := cell_of_row _ _ 0 _ _ _ v3
  obtain ⟨a0, a1, a2, az⟩ := e3.cells
  obtain ⟨b0, b1, b2, bz⟩ := z3.cells
  go_wp2
  have z4 : FtAt (w3.setCell ⟨w.heap.size, 0, none⟩ (.int .i64 c)) w.heap.size c 0 ⟨#[]⟩ := heap_setCell_at w3 w.heap.size 0 _ _ _ _ z3
  have z5 : FtAt ((w3.setCell ⟨w.heap.size, 0, none⟩ (.int .i64 c)).setCell ⟨w.heap.size, 1, none⟩ (.int .i64 a)) w.heap.size c a ⟨#[]⟩ := heap_setCell_at _ w.heap.size 1 _ _ _ _ z4
  have z6 : FtAt (((w3.setCell ⟨w.heap.size, 0, none⟩ (.int .i64 c)).setCell ⟨w.heap.size, 1, none⟩ (.int .i64 a)).setCell ⟨w.heap.size, 2, none⟩ (.string wd)) w.heap.size c a wd := heap_setCell_at _ w.heap.size 2 _ _ _ _ z5
  refine bodyPost_ret (results_ft rfl _ _ w.heap.size c a wd rfl rfl z6) rfl ?_
  exact ⟨rfl, ((x3w.setNew (p := ⟨w.heap.size, 0, none⟩) (Nat.le_refl _) _).setNew (p := ⟨w.heap.size, 1, none⟩) (Nat.le_refl _) _).setNew (p := ⟨w.heap.size, 2, none⟩) (Nat.le_refl _) _⟩

def T1 : ByteArray := ⟨#[40, 99, 110, 61, 97, 92, 50, 97, 41]⟩
def T2 : ByteArray := ⟨#[40, 97, 61, 98, 40, 99, 41]⟩
theorem t1_d : descP ((byt T1).drop 1) = (2, true) := by decide
theorem t1_e : valE T1 4 true = 0 := by decide
theorem t1_n : valN T1 4 true = 4 := by decide
theorem t1_s : valS T1 4 true = ⟨#[97, 42]⟩ := by decide
theorem t2_d : descP ((byt T2).drop 1) = (1, true) := by decide
theorem t2_e : valE T2 3 true = 12 := by decide
theorem t2_n : valN T2 3 true = 1 := by decide

theorem Parse_T1 (w : World) (g off cap : Nat) (ht : Tab w g off cap) :
    Calls Tryz.prog 9 #[.string T1] w fun e w' => e = .returned (.tuple #[.agg #[.int .i8 3, .slice none 0 0, .string ⟨#[99, 110]⟩, .string ⟨#[97, 42]⟩, .string ⟨#[]⟩, .slice none 0 0, .string ⟨#[]⟩, .string ⟨#[]⟩, .bool false], .nilIface]) ∧ Ext w w' := by
  have hgl : g < w.heap.size := World.block_lt_of_cell? w _ (ht.c0 0 (by omega))
  have hGl : 1 < w.heap.size := World.block_lt_of_cell? w _ ht.var
  refine (Parse_ok w T1 9 1 { F9.zero with kind := 3, desc := T1.extract 1 3, value := valS T1 4 true } (by decide) ?_).mono ?_
  · intro w1 x1 r1
    refine whole_ok w1 (w.heap.size + 1) T1 0 0 1 9 _ r1 rfl ?_
    intro w2 r2 o2
    refine filter_ok w2 (w.heap.size + 1) T1 0 0 1 r2 (by decide) (by decide) (by decide) (by decide) (by decide) 8 _ ?_ (by decide)
    intro w3 r3 o3
    refine body_item w3 (w.heap.size + 1) T1 1 1 _ r3 (by decide) (by decide) (by decide) (by decide) 8 _ none ?_
    intro w4 r4 o4
    have t4 : Tab w4 g off cap := (ht.ext x1).only ((o2.then o3).then o4) (by omega) (by omega)
    have h := item_eq w4 (w.heap.size + 1) T1 1 1 r4 (by decide) (by decide) g off cap t4 (by omega) (by omega) 2 (by decide) t1_d (by decide) (by decide) t1_e (by rw [t1_s]; decide) (by rw [t1_n]; decide)
    rw [t1_n] at h
    exact h
  · rintro e w' ⟨rfl, x⟩
    rw [t1_s]
    exact ⟨rfl, x⟩
theorem Parse_T2 (w : World) (g off cap : Nat) (ht : Tab w g off cap) (he : ErrT w) :
    Calls Tryz.prog 9 #[.string T2] w fun e w' => ∃ g, e = .returned (.tuple #[.agg #[.int .i8 0, .slice none 0 0, .string ⟨#[]⟩, .string ⟨#[]⟩, .string ⟨#[]⟩, .slice none 0 0, .string ⟨#[]⟩, .string ⟨#[]⟩, .bool false], errV g]) ∧ w.heap.size ≤ g ∧ FtAt w' g 12 4 ⟨#[40]⟩ ∧ Ext w w' := by
  have hgl : g < w.heap.size := World.block_lt_of_cell? w _ (ht.c0 0 (by omega))
  have hGl : 1 < w.heap.size := World.block_lt_of_cell? w _ ht.var
  refine (Parse_err w T2 4 1 { F9.zero with desc := T2.extract 1 2 } 12 4 (by decide) (by decide) he ?_).mono ?_
  · intro w1 x1 r1
    refine whole_err w1 (w.heap.size + 1) T2 0 0 1 4 _ (12, 4) r1 ?_
    intro w2 r2 o2
    refine filter_err w2 (w.heap.size + 1) T2 0 0 1 r2 (by decide) (by decide) (by decide) (by decide) (by decide) 4 _ (12, 4) ?_
    intro w3 r3 o3
    refine body_item w3 (w.heap.size + 1) T2 1 1 _ r3 (by decide) (by decide) (by decide) (by decide) 4 _ (some (12, 4)) ?_
    intro w4 r4 o4
    have t4 : Tab w4 g off cap := (ht.ext x1).only ((o2.then o3).then o4) (by omega) (by omega)
    have h := item_err w4 (w.heap.size + 1) T2 1 1 r4 (by decide) (by decide) g off cap t4 (by omega) (by omega) 1 (by decide) t2_d (by decide) (by decide) (by rw [t2_e]; decide)
    rw [t2_n, t2_e] at h
    exact h
  · rintro e w' ⟨g, rfl, h1, h2, x⟩
    exact ⟨g, rfl, h1, h2, x⟩
end Go.Proofs.YtffaenlbdapleaaGreatDoor
