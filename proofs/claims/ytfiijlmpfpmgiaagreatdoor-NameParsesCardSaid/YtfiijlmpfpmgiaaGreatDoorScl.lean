/-
  One class without Sups, Must and May in memory: copied.
-/
import Derived.Test.YtfiijlmpfpmgiaaGreatDoorStwinToXpush
namespace Go.Proofs.YtfiijlmpfpmgiaaGreatDoor
open Go.RowKit

structure Cl where
  oid : ByteArray
  names : List ByteArray
  kind : Int
/-- its cells; nv: the slice of its names -/
def clL (c : Cl) (nv : Value) : List Value := [.string c.oid, nv, .slice none 0 0, .int .i8 c.kind, .slice none 0 0, .slice none 0 0]
theorem infoCl : (Tryz.prog.info? 139).map (fun i => (i.zero, i.size, i.bytes)) = some (some (.agg #[.string ⟨#[]⟩, .slice none 0 0, .slice none 0 0, .int .i8 0, .slice none 0 0, .slice none 0 0]), 6, 120) := by kernel_rfl
theorem clL_one (c : Cl) {nv : Value} (h : nv.oneCell' = true) : ∀ u ∈ clL c nv, u.oneCell' = true := by
  intro u hu
  simp only [clL, List.mem_cons, List.not_mem_nil, or_false] at hu
  rcases hu with h1 | h1 | h1 | h1 | h1 | h1 <;> subst h1 <;> first | rfl | exact h
set_option maxRecDepth 100000 in
set_option maxHeartbeats 1000000 in
theorem cloneS_nil (w : World) : Calls Tryz.prog 148 #[.slice none 0 0] w fun e w' => e = .returned (.slice none 0 0) ∧ w' = w := by
  have hq : ∀ w, (binOp .eql 59 (.slice none 0 0) (.slice none 0 0)).run Tryz.prog w = .ok (.bool true) w := fun w => eql_nil w _ _ _ _ _ Tryz.underlying59
  go_enter Tryz.func148, Tryz.ntmps148
  go_wp2
  go_ret
  exact ⟨rfl, rfl⟩
set_option maxRecDepth 100000 in
set_option maxHeartbeats 1000000 in
theorem cloneC_one (w : World) (g o cap : Nat) (c : Cl) (nv : Value) (h1 : nv.oneCell' = true) (hc : ∀ j u, (clL c nv)[j]? = some u → w.cell? ⟨g, o + j, none⟩ = some u) :
    Calls Tryz.prog 111 #[.slice (some ⟨g, o, none⟩) 1 cap] w fun e w' => ∃ g2 c2, e = .returned (.slice (some ⟨g2, 0, none⟩) 1 c2) ∧ Row w' (fun k => w.heap.size ≤ k) 139 6 (.slice (some ⟨g2, 0, none⟩) 1 c2) 1 (clL c nv) ∧ Ext w w' := by
  have hsrc : Src Tryz.prog 6 95 (.slice (some ⟨g, o, none⟩) 1 cap) 1 (clL c nv) (w.alloc (.cells #[] 139)) := by
    refine Src.ofSlice _ Tryz.underlying95 ⟨g, o, none⟩ 1 cap (clL c nv) rfl (fun j u hu => ?_) (clL_one c h1)
    rw [Addr.add_lit]
    exact ((Ext.refl w).alloc _).cell (hc j u hu)
  obtain ⟨a2, c2, w2, hr, r2, x2⟩ := run_append_empty (w.alloc (.cells #[] 139)) (fun k => w.heap.size ≤ k) 95 139 95 95 _ 6 120 infoCl Tryz.underlying95 rfl w.heap.size (heap_alloc_new w _) (Nat.le_refl _) (by simp) _ _ _ hsrc (by decide) (by decide)
  have hrh : Hid _ := hr
  obtain ⟨g2, rfl, _⟩ := row_some r2 (by decide)
  clear hr hsrc
  have hq : ∀ w, (binOp .eql 95 (.slice (some ⟨g, o, none⟩) 1 cap) (.slice none 0 0)).run Tryz.prog w = .ok (.bool false) w := fun w => eql_nil w _ _ _ _ _ Tryz.underlying95
  go_enter Tryz.func111, Tryz.ntmps111
  go_wp2_with (at_builtin; refine Hid.out ?_)
  refine Lib.wpList_append_run _ rfl _ _ _ _ rfl _ _ rfl rfl _ _ hrh.out ?_
  go_wp2
  go_ret
  exact ⟨_, _, rfl, r2, ((Ext.refl w).alloc _).trans x2⟩

def set6 (w : World) (g o : Nat) (c0 c1 c2 c3 c4 c5 : Value) : World :=
  (((((w.setCell ⟨g, o, none⟩ c0).setCell ⟨g, o + 1, none⟩ c1).setCell ⟨g, o + 2, none⟩ c2).setCell ⟨g, o + 3, none⟩ c3).setCell ⟨g, o + 4, none⟩ c4).setCell ⟨g, o + 5, none⟩ c5
theorem set6_cells (w : World) (g o : Nat) (c0 c1 c2 c3 c4 c5 : Value) : set6 w g o c0 c1 c2 c3 c4 c5 = w.setCells g o [c0, c1, c2, c3, c4, c5] := rfl
theorem set6_only (w : World) (g o : Nat) (c0 c1 c2 c3 c4 c5 : Value) : Only (fun k => k = g) w (set6 w g o c0 c1 c2 c3 c4 c5) := by
  rw [set6_cells]; exact Only.setCells w g o _ rfl
theorem set6_heap (w : World) (g : Nat) (d0 d1 d2 d3 d4 d5 c0 c1 c2 c3 c4 c5 : Value) (r : List Value) (t : TypeId) (fz : Nat × Nat) (h : w.heap[g]? = some (.cells (d0 :: d1 :: d2 :: d3 :: d4 :: d5 :: r).toArray t fz)) :
    (set6 w g 0 c0 c1 c2 c3 c4 c5).heap[g]? = some (.cells (c0 :: c1 :: c2 :: c3 :: c4 :: c5 :: r).toArray t fz) := by
  rw [set6_cells]
  exact heap_setCells_at g t fz [c0, c1, c2, c3, c4, c5] 0 w (d0 :: d1 :: d2 :: d3 :: d4 :: d5 :: r) h (by simp)
theorem row_of {w : World} {g : Nat} {cs : List Value} {t : TypeId} {fz : Nat × Nat} (h : w.heap[g]? = some (.cells cs.toArray t fz)) : ∀ j v, cs[j]? = some v → w.cell? ((⟨g, 0, none⟩ : Addr).add j) = some v := by
  intro j v hv
  rw [Addr.add_lit, Nat.zero_add, cell_of_row _ _ j _ _ _ h]
  simpa using hv
theorem frz {W : World} {g : Nat} {cs : Array Value} {t : TypeId} (h : W.heap[g]? = some (.cells cs t (0, 0))) : ∀ j, W.frozen? ⟨g, j, none⟩ = false := fun j => by simp [World.frozen?, h]
theorem blk7 {W W' : World} {o : Obj} {g : Nat} {S : Nat → Prop} (h : W.heap[g]? = some o) (x : Only S W W') (hS : ¬ S g) : W'.heap[g]? = some o := (x.block g (Array.getElem?_eq_some_iff.1 h).1 hS).trans h
structure TcS (w : World) (oid : ByteArray) (names : List ByteArray) (kind : Int) (u1 : Option Addr) (u2 u3 : Nat) (W : World) : Prop where
  box : W.heap[w.heap.size]? = some (.cells #[.string oid, .slice u1 u2 u3, .slice none 0 0, .int .i8 kind, .slice none 0 0, .slice none 0 0] 139 (0, 0))
  res : W.heap[w.heap.size + 1]? = some (.cells #[.string ⟨#[]⟩, .slice none 0 0, .slice none 0 0, .int .i8 0, .slice none 0 0, .slice none 0 0] 139 (0, 0))
  row : RowE 9 encS W (fun k => w.heap.size + 2 ≤ k) (.slice u1 u2 u3) names
  ext : Ext w W
section
variable {w : World} {oid : ByteArray} {names : List ByteArray} {kind : Int} {u1 : Option Addr} {u2 u3 : Nat} {W W' : World}
theorem TcS.grow (h : TcS w oid names kind u1 u2 u3 W) (x : Ext W W') : TcS w oid names kind u1 u2 u3 W' := ⟨blk7 h.box (x.only (S := fun _ => False)) (fun h => h), blk7 h.res (x.only (S := fun _ => False)) (fun h => h), RowE.ext h.row x, h.ext.trans x⟩
theorem TcS.put45 (h : TcS w oid names kind u1 u2 u3 W) : TcS w oid names kind u1 u2 u3 ((W.setCell ⟨w.heap.size, 4, none⟩ (.slice none 0 0)).setCell ⟨w.heap.size, 5, none⟩ (.slice none 0 0)) := by
  have O := (only_set W w.heap.size 4 (.slice none 0 0)).then (only_set _ w.heap.size 5 (.slice none 0 0))
  exact ⟨heap_setCell_at _ w.heap.size 5 (.slice none 0 0) _ _ _ (heap_setCell_at _ w.heap.size 4 (.slice none 0 0) _ _ _ h.box), blk7 h.res O (by omega), Row.kept h.row O (fun g hg => by omega), h.ext.then O (fun g hg => by omega)⟩
end
set_option maxRecDepth 100000 in
set_option maxHeartbeats 4000000 in
theorem twinClass_any (w : World) (c : Cl) (nv : Value) (hs : Sl encS w nv c.names) (hl : c.names.length ≤ 1000000000) :
    Calls Tryz.prog 113 #[.agg #[.string c.oid, nv, .slice none 0 0, .int .i8 c.kind, .slice none 0 0, .slice none 0 0]] w fun e w' => ∃ ua un uc, e = .returned (.agg #[.string c.oid, .slice ua un uc, .slice none 0 0, .int .i8 c.kind, .slice none 0 0, .slice none 0 0]) ∧ RowE 9 encS w' (fun k => w.heap.size ≤ k) (.slice ua un uc) c.names ∧ Ext w w' := by
  have hc := fun w1 (x : Ext w w1) => cloneS_any w1 nv c.names (hs.ext x) hl
  have hc0 := cloneS_nil
  have hmix : Tryz.prog.follows Departure.mixedOrders = true := by kernel_rfl
  obtain ⟨a, n, cc, rfl, _⟩ := hs.shape
  obtain ⟨oid, names, kind⟩ := c
  simp only at hc ⊢
  have hc2 : Calls Tryz.prog 148 #[.slice a n cc] ((w.alloc (.cells #[.string oid, .slice a n cc, .slice none 0 0, .int .i8 kind, .slice none 0 0, .slice none 0 0] 139)).alloc (.cells #[.string ⟨#[]⟩, .slice none 0 0, .slice none 0 0, .int .i8 0, .slice none 0 0, .slice none 0 0] 139)).drew fun e w3 => ∃ u1 u2 u3, e = .returned (.slice u1 u2 u3) ∧ Hid (RowE 9 encS w3 (fun k => w.heap.size + 2 ≤ k) (.slice u1 u2 u3) names ∧ Ext w w3 ∧ w3.heap[w.heap.size]? = some (.cells #[.string oid, .slice a n cc, .slice none 0 0, .int .i8 kind, .slice none 0 0, .slice none 0 0] 139 (0, 0)) ∧ w3.heap[w.heap.size + 1]? = some (.cells #[.string ⟨#[]⟩, .slice none 0 0, .slice none 0 0, .int .i8 0, .slice none 0 0, .slice none 0 0] 139 (0, 0))) ∧
      w3.cell? ⟨w.heap.size, 0, none⟩ = some (.string oid) ∧ w3.cell? ⟨w.heap.size, 1, none⟩ = some (.slice a n cc) ∧ w3.cell? ⟨w.heap.size, 2, none⟩ = some (.slice none 0 0) ∧ w3.cell? ⟨w.heap.size, 3, none⟩ = some (.int .i8 kind) ∧ w3.cell? ⟨w.heap.size, 4, none⟩ = some (.slice none 0 0) ∧ w3.cell? ⟨w.heap.size, 5, none⟩ = some (.slice none 0 0) ∧ (∀ j, w3.frozen? ⟨w.heap.size, j, none⟩ = false) ∧ (∀ j, w3.frozen? ⟨w.heap.size + 1, j, none⟩ = false) ∧
      w3.cell? ⟨w.heap.size + 1, 0, none⟩ = some (.string ⟨#[]⟩) ∧ w3.cell? ⟨w.heap.size + 1, 1, none⟩ = some (.slice none 0 0) ∧ w3.cell? ⟨w.heap.size + 1, 2, none⟩ = some (.slice none 0 0) ∧ w3.cell? ⟨w.heap.size + 1, 3, none⟩ = some (.int .i8 0) ∧ w3.cell? ⟨w.heap.size + 1, 4, none⟩ = some (.slice none 0 0) ∧ w3.cell? ⟨w.heap.size + 1, 5, none⟩ = some (.slice none 0 0) := by
    refine (hc _ (((Ext.refl w).alloc _).alloc _).drew).mono ?_
    rintro _ w3 ⟨u, rfl, r3, x3⟩
    obtain ⟨u1, u3, hu⟩ := row_slice r3
    subst hu
    have H1 := (x3.block w.heap.size (lt2 w _ _)).trans (box2 w _ _ _)
    have H2 : w3.heap[w.heap.size + 1]? = some (.cells #[.string ⟨#[]⟩, .slice none 0 0, .slice none 0 0, .int .i8 0, .slice none 0 0, .slice none 0 0] 139 (0, 0)) := by
      refine (x3.block (w.heap.size + 1) ?_).trans ?_
      · show _ < ((w.alloc _).alloc _).heap.size
        simp only [World.size_alloc]; omega
      · show ((w.alloc _).alloc _).heap[w.heap.size + 1]? = _
        rw [show w.heap.size + 1 = (w.alloc (.cells #[.string oid, .slice a n cc, .slice none 0 0, .int .i8 kind, .slice none 0 0, .slice none 0 0] 139)).heap.size by simp, heap_alloc_new]
    refine ⟨u1, _, u3, rfl, ⟨Row.wide r3 (fun k hk => ?_), (((Ext.refl w).alloc _).alloc _).drew.trans x3, H1, H2⟩, cell_of_row _ _ 0 _ _ _ H1, cell_of_row _ _ 1 _ _ _ H1, cell_of_row _ _ 2 _ _ _ H1, cell_of_row _ _ 3 _ _ _ H1, cell_of_row _ _ 4 _ _ _ H1, cell_of_row _ _ 5 _ _ _ H1, fun j => by simp [World.frozen?, H1], fun j => by simp [World.frozen?, H2], cell_of_row _ _ 0 _ _ _ H2, cell_of_row _ _ 1 _ _ _ H2, cell_of_row _ _ 2 _ _ _ H2, cell_of_row _ _ 3 _ _ _ H2, cell_of_row _ _ 4 _ _ _ H2, cell_of_row _ _ 5 _ _ _ H2⟩
    have : ((w.alloc (.cells #[.string oid, .slice a n cc, .slice none 0 0, .int .i8 kind, .slice none 0 0, .slice none 0 0] 139)).alloc (.cells #[.string ⟨#[]⟩, .slice none 0 0, .slice none 0 0, .int .i8 0, .slice none 0 0, .slice none 0 0] 139)).heap.size ≤ k := hk
    simp only [World.size_alloc] at this
    omega
  clear hc
  go_enter Tryz.func113, Tryz.ntmps113
  go_upto_region 1 with fail
  go_cut [] from 3 to 10 (fun wx => ∃ u1 u2 u3, TcS w oid names kind u1 u2 u3 wx)
  case first =>
    go_region_with_o (first
      | (go_at_call 148; refine hc2.mono ?_; rintro _ w3 ⟨u1, u2, u3, rfl, HR, p0, p1, p2, p3, p4, p5, f0, f1, q0, q1, q2, q3, q4, q5⟩)
      | (go_at_call 148; refine (hc0 _).mono ?_; rintro _ w4 ⟨rfl, rfl⟩))
    all_goals go_wp2
    all_goals go_meet
    all_goals
      obtain ⟨r3, x3, H1, H2⟩ := HR.out
      have O := (only_set w4 w.heap.size 1 (.slice u1 u2 u3)).then (only_set _ w.heap.size 2 (.slice none 0 0))
      exact ⟨u1, u2, u3, heap_setCell_at _ w.heap.size 2 (.slice none 0 0) _ _ _ (heap_setCell_at w4 w.heap.size 1 (.slice u1 u2 u3) _ _ _ H1), blk7 H2 O (by omega), Row.kept r3 O (fun g hg => by omega), x3.then O (fun g hg => by omega)⟩
  case rest =>
    obtain ⟨u1, u2, u3, TC⟩ := hcut
    have p4 := cell_of_row _ _ 4 _ _ _ TC.box
    have p5 := cell_of_row _ _ 5 _ _ _ TC.box
    have fb := frz TC.box
    simp only [List.getElem?_toArray, List.getElem?_cons_zero, List.getElem?_cons_succ] at p4 p5
    have TCh : Hid _ := TC
    clear TC hc2
    go_wp2_with fail
    go_cut [] from 11 to 18 (fun wx => TcS w oid names kind u1 u2 u3 wx)
    case first =>
      go_region_with_o (go_at_call 148; refine (hc0 _).mono ?_; rintro _ w4 ⟨rfl, rfl⟩)
      all_goals go_wp2
      all_goals go_meet
      all_goals first | exact TCh.out.put45 | exact (TCh.out.grow (Ext.refl _).drew).put45
    case rest =>
      have p0 := cell_of_row _ _ 0 _ _ _ hcut.box
      have p1 := cell_of_row _ _ 1 _ _ _ hcut.box
      have p2 := cell_of_row _ _ 2 _ _ _ hcut.box
      have p3 := cell_of_row _ _ 3 _ _ _ hcut.box
      have p4 := cell_of_row _ _ 4 _ _ _ hcut.box
      have p5 := cell_of_row _ _ 5 _ _ _ hcut.box
      have q0 := cell_of_row _ _ 0 _ _ _ hcut.res
      have q1 := cell_of_row _ _ 1 _ _ _ hcut.res
      have q2 := cell_of_row _ _ 2 _ _ _ hcut.res
      have q3 := cell_of_row _ _ 3 _ _ _ hcut.res
      have q4 := cell_of_row _ _ 4 _ _ _ hcut.res
      have q5 := cell_of_row _ _ 5 _ _ _ hcut.res
      have fq := frz hcut.res
      simp only [List.getElem?_toArray, List.getElem?_cons_zero, List.getElem?_cons_succ] at p0 p1 p2 p3 p4 p5 q0 q1 q2 q3 q4 q5
      have HC : Hid _ := hcut
      clear hcut TCh
      go_wp2
      have TC := HC.out
      have H4 := set6_heap wc (w.heap.size + 1) _ _ _ _ _ _ (.string oid) (.slice u1 u2 u3) (.slice none 0 0) (.int .i8 kind) (.slice none 0 0) (.slice none 0 0) [] _ _ TC.res
      have O4 := set6_only wc (w.heap.size + 1) 0 (.string oid) (.slice u1 u2 u3) (.slice none 0 0) (.int .i8 kind) (.slice none 0 0) (.slice none 0 0)
      refine bodyPost_ret (results_agg rfl _ _ (w.heap.size + 1) [.string oid, .slice u1 u2 u3, .slice none 0 0, .int .i8 kind, .slice none 0 0, .slice none 0 0] 6 rfl Tryz.isAgg139 Tryz.sizeOf139 rfl (row_of H4)) rfl ?_
      exact ⟨u1, u2, u3, rfl, (Row.kept TC.row O4 (fun g hg => by omega)).wide (fun g hg => by omega), TC.ext.then O4 (fun g hg => by omega)⟩
end Go.Proofs.YtfiijlmpfpmgiaaGreatDoor
