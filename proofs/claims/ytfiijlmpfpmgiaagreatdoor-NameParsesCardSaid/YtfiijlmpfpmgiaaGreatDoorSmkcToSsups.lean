/-
  newMaker, of a schema with one class whose types have nothing above them.
-/
import Derived.Test.YtfiijlmpfpmgiaaGreatDoorSmk
import Derived.Test.YtfiijlmpfpmgiaaGreatDoorStwc
namespace Go.Proofs.YtfiijlmpfpmgiaaGreatDoor
open Go.RowKit

/-- the class beside the types: the slice that came in, where its own row lies, itself, its names; the words that lead to it -/
structure Dc where
  vc : Value
  gc : Nat
  cc : Nat
  cl : Cl
  nc : Value
  cn : Nat
  cf : List UInt8 → Option Int
/-- a maker in the making: where it and what it has lies -/
structure MkC (D : Dc) (w : World) (n : Nat) (v : Value) (ts : List Ty) (H : Nat) (a : Option Addr) (c : Nat) (qs : List TyP) (cnt : Nat) (f : List UInt8 → Option Int) (k : Nat) (sv : Value) (W : World) : Prop where
  gt : w.heap.size < H
  box : W.heap[w.heap.size]? = some (.cells #[v, D.vc] 97 (0, 0))
  fst : qs.map Prod.fst = ts
  row : Row W (fun b => w.heap.size < b ∧ b < H) 137 9 (.slice a n c) n (flat qs)
  own : ∀ p ∈ qs, RowE 9 encS W (fun b => w.heap.size < b ∧ b < H) p.2 p.1.names
  mt : MapAt W H cnt f
  mc : MapAt W (H + 1) D.cn D.cf
  sc : W.heap[H + 2]? = some (.cells #[.slice a n c, .slice (some ⟨D.gc, 0, none⟩) 1 D.cc, .map (some H), .map (some (H + 1)), .slice none 0 0, .slice none 0 0, .slice none 0 0] 151 (0, 0))
  mb : W.heap[H + 3]? = some (.cells #[.pointer (some ⟨H + 2, 0, none⟩), sv, .slice none 0 0] 134 (0, 0))
  sup : Row W (fun b => H + 4 ≤ b) 3 1 sv k (List.replicate k (.int .i64 (-1)))
  ext : Ext w W
  cls : Row W (fun b => w.heap.size < b ∧ b < H) 139 6 (.slice (some ⟨D.gc, 0, none⟩) 1 D.cc) 1 (clL D.cl D.nc)
  cnm : RowE 9 encS W (fun b => w.heap.size < b ∧ b < H) D.nc D.cl.names
section
variable {D : Dc} {w : World} {n : Nat} {v : Value} {ts : List Ty} {H : Nat} {a : Option Addr} {c : Nat} {qs : List TyP} {cnt : Nat} {f : List UInt8 → Option Int} {k : Nat} {sv : Value} {W W' : World}
theorem mkc_start {w1 : World} {vc : Value} {gc cc : Nat} {cl : Cl} {nc : Value} (B : w1.heap[w.heap.size]? = some (.cells #[v, vc] 97 (0, 0))) (hz : w.heap.size < w1.heap.size) (hf : qs.map Prod.fst = ts) (hr : Row w1 (fun b => w.heap.size < b) 137 9 (.slice a n c) n (flat qs))
    (ho : ∀ p ∈ qs, RowE 9 encS w1 (fun b => w.heap.size < b) p.2 p.1.names) (x : Ext w w1) (hcr : Row w1 (fun b => w.heap.size < b) 139 6 (.slice (some ⟨gc, 0, none⟩) 1 cc) 1 (clL cl nc)) (hcm : RowE 9 encS w1 (fun b => w.heap.size < b) nc cl.names) :
    MkC ⟨vc, gc, cc, cl, nc, 0, fun _ => none⟩ w n v ts w1.heap.size a c qs 0 (fun _ => none) 0 (.slice none 0 0) ((((w1.alloc (.map #[] 0)).alloc (.map #[] 0)).alloc (.cells #[.slice a n c, .slice (some ⟨gc, 0, none⟩) 1 cc, .map (some w1.heap.size), .map (some (w1.heap.size + 1)), .slice none 0 0, .slice none 0 0, .slice none 0 0] 151)).alloc
      (.cells #[.pointer (some ⟨w1.heap.size + 1 + 1, 0, none⟩), .slice none 0 0, .slice none 0 0] 134)) := by
  have e1 : Ext w1 ((((w1.alloc (.map #[] 0)).alloc (.map #[] 0)).alloc (.cells #[.slice a n c, .slice (some ⟨gc, 0, none⟩) 1 cc, .map (some w1.heap.size), .map (some (w1.heap.size + 1)), .slice none 0 0, .slice none 0 0, .slice none 0 0] 151)).alloc
      (.cells #[.pointer (some ⟨w1.heap.size + 1 + 1, 0, none⟩), .slice none 0 0, .slice none 0 0] 134)) := ((((Ext.refl w1).alloc _).alloc _).alloc _).alloc _
  have lift : ∀ {W1 : World} {S : Nat → Prop} {e : TypeId} {sz m : Nat} {u : Value} {xs : List Value}, Row W1 S e sz u m xs → Row W1 (fun b => S b ∧ b < W1.heap.size) e sz u m xs := fun h => ⟨h.1, fun k hk => ⟨h.2 k hk, h.lt hk⟩⟩
  refine ⟨hz, (e1.block _ hz).trans B, hf, Row.ext (lift hr) e1, fun p hp => Row.ext (lift (ho p hp)) e1, ?_, ?_, ?_, ?_, row_nil _ _ _ _, x.trans e1, Row.ext (lift hcr) e1, Row.ext (lift hcm) e1⟩
  · exact (mapAt_made w1).ext ((((Ext.refl _).alloc _).alloc _).alloc _)
  · have := (mapAt_made (w1.alloc (.map #[] 0))).ext (((Ext.refl _).alloc (.cells #[.slice a n c, .slice (some ⟨gc, 0, none⟩) 1 cc, .map (some w1.heap.size), .map (some (w1.heap.size + 1)), .slice none 0 0, .slice none 0 0, .slice none 0 0] 151)).alloc
      (.cells #[.pointer (some ⟨w1.heap.size + 1 + 1, 0, none⟩), .slice none 0 0, .slice none 0 0] 134))
    simpa using this
  · rw [Below.heap_alloc _ _ _ (by simp)]
    have := heap_alloc_new ((w1.alloc (.map #[] 0)).alloc (.map #[] 0)) (.cells #[.slice a n c, .slice (some ⟨gc, 0, none⟩) 1 cc, .map (some w1.heap.size), .map (some (w1.heap.size + 1)), .slice none 0 0, .slice none 0 0, .slice none 0 0] 151)
    simp only [World.size_alloc] at this
    exact this
  · have := heap_alloc_new (((w1.alloc (.map #[] 0)).alloc (.map #[] 0)).alloc (.cells #[.slice a n c, .slice (some ⟨gc, 0, none⟩) 1 cc, .map (some w1.heap.size), .map (some (w1.heap.size + 1)), .slice none 0 0, .slice none 0 0, .slice none 0 0] 151)) (.cells #[.pointer (some ⟨w1.heap.size + 1 + 1, 0, none⟩), .slice none 0 0, .slice none 0 0] 134)
    simp only [World.size_alloc] at this
    exact this
theorem MkC.lt (h : MkC D w n v ts H a c qs cnt f k sv W) : H + 3 < W.heap.size := (Array.getElem?_eq_some_iff.1 h.mb).1
/-- what lies elsewhere may turn -/
theorem MkC.only {S : Nat → Prop} (h : MkC D w n v ts H a c qs cnt f k sv W) (x : Only S W W') (hS : ∀ g, S g → H + 4 ≤ g) (hs : ∀ g, Go.Proofs.YtfiijlmpfpmgiaaGreatDoor.own sv g → ¬ S g) : MkC D w n v ts H a c qs cnt f k sv W' := by
  have hg := h.gt
  have ns : ∀ g, g < H + 4 → ¬ S g := fun g hg hs => by have := hS g hs; omega
  exact ⟨h.gt, blk h.box x (ns _ (by omega)), h.fst, Row.kept h.row x (fun g hg => ns g (by omega)), fun p hp => Row.kept (h.own p hp) x (fun g hg => ns g (by omega)), h.mt.only x (ns _ (by omega)), h.mc.only x (ns _ (by omega)),
    blk h.sc x (ns _ (by omega)), blk h.mb x (ns _ (by omega)), (Row.kept h.sup.min x hs).wide (fun g hg => h.sup.2 g hg), h.ext.then x (fun g hs => by have := hS g hs; omega), Row.kept h.cls x (fun g hg => ns g (by omega)), Row.kept h.cnm x (fun g hg => ns g (by omega))⟩
theorem MkC.grow (h : MkC D w n v ts H a c qs cnt f k sv W) (x : Ext W W') : MkC D w n v ts H a c qs cnt f k sv W' :=
  h.only (S := fun _ => False) x.only (fun _ hf => hf.elim) (fun _ _ hf => hf)
/-- one number more in the maker's row -/
theorem MkC.push {sv' : Value} {W3 : World} (h : MkC D w n v ts H a c qs cnt f k sv W) (r : Row W3 (Up (Go.Proofs.YtfiijlmpfpmgiaaGreatDoor.own sv) W.heap.size) 3 1 sv' (k + 1) (List.replicate k (.int .i64 (-1)) ++ [.int .i64 (-1)])) (x : Only (Go.Proofs.YtfiijlmpfpmgiaaGreatDoor.own sv) W W3) :
    MkC D w n v ts H a c qs cnt f (k + 1) sv' (W3.setCell ⟨H + 3, 1, none⟩ sv') := by
  have hg := h.gt
  have hlt := h.lt
  have hS : ∀ g, Go.Proofs.YtfiijlmpfpmgiaaGreatDoor.own sv g → H + 4 ≤ g := fun g hg => h.sup.2 g hg
  have hR : ∀ g, Up (Go.Proofs.YtfiijlmpfpmgiaaGreatDoor.own sv) W.heap.size g → H + 4 ≤ g := fun g hg => hg.elim (hS g) (fun h' => by omega)
  have ns : ∀ g, g < H + 4 → ¬ Go.Proofs.YtfiijlmpfpmgiaaGreatDoor.own sv g := fun g hg hs => by have := hS g hs; omega
  have y := only_set W3 (H + 3) 1 sv'
  have hm := blk h.mb x (ns _ (by omega))
  refine ⟨h.gt, blk (blk h.box x (ns _ (by omega))) y (by omega), h.fst, Row.kept (Row.kept h.row x (fun g hg => ns g (by omega))) y (fun g hg => by omega), fun p hp => Row.kept (Row.kept (h.own p hp) x (fun g hg => ns g (by omega))) y (fun g hg => by omega),
    (h.mt.only x (ns _ (by omega))).only y (by omega), (h.mc.only x (ns _ (by omega))).only y (by omega), blk (blk h.sc x (ns _ (by omega))) y (by omega), heap_setCell_at W3 (H + 3) 1 sv' _ _ _ hm, ?_, (h.ext.then x (fun g hs => by have := hS g hs; omega)).then y (fun g hs => by omega), Row.kept (Row.kept h.cls x (fun g hg => ns g (by omega))) y (fun g hg => by omega), Row.kept (Row.kept h.cnm x (fun g hg => ns g (by omega))) y (fun g hg => by omega)⟩
  have r2 := Row.kept (r.wide hR) y (fun g hg => by omega)
  rwa [← List.replicate_succ'] at r2
theorem MkC.put {cnt' : Nat} {f' : List UInt8 → Option Int} (h : MkC D w n v ts H a c qs cnt f k sv W) (x : Only (fun b => b = H) W W') (hm : MapAt W' H cnt' f') : MkC D w n v ts H a c qs cnt' f' k sv W' := by
  have hg := h.gt
  exact ⟨h.gt, blk h.box x (by omega), h.fst, Row.kept h.row x (fun g hg => by omega), fun p hp => Row.kept (h.own p hp) x (fun g hg => by omega), hm, h.mc.only x (by omega),
    blk h.sc x (by omega), blk h.mb x (by omega), Row.kept h.sup x (fun g hg => by omega), h.ext.then x (fun g hs => by omega), Row.kept h.cls x (fun g hg => by omega), Row.kept h.cnm x (fun g hg => by omega)⟩
/-- the classes' words -/
theorem MkC.putC {cn' : Nat} {cf' : List UInt8 → Option Int} (h : MkC D w n v ts H a c qs cnt f k sv W) (x : Only (fun b => b = H + 1) W W') (hm : MapAt W' (H + 1) cn' cf') : MkC { D with cn := cn', cf := cf' } w n v ts H a c qs cnt f k sv W' := by
  have hg := h.gt
  exact ⟨h.gt, blk h.box x (by omega), h.fst, Row.kept h.row x (fun g hg => by omega), fun p hp => Row.kept (h.own p hp) x (fun g hg => by omega), h.mt.only x (by omega), hm,
    blk h.sc x (by omega), blk h.mb x (by omega), Row.kept h.sup x (fun g hg => by omega), h.ext.then x (fun g hs => by omega), Row.kept h.cls x (fun g hg => by omega), Row.kept h.cnm x (fun g hg => by omega)⟩
end

theorem mkc_cell {D : Dc} {w : World} {n : Nat} {v : Value} {ts : List Ty} {H : Nat} {a : Option Addr} {c : Nat} {qs : List TyP} {cnt : Nat} {f : List UInt8 → Option Int} {k : Nat} {sv : Value} {W W' : World} (h : MkC D w n v ts H a c qs cnt f k sv W) (x : Only (own sv) W W') : W'.cell? ⟨H + 3, 1, none⟩ = some sv ∧ W'.frozen? ⟨H + 3, 1, none⟩ = false := by
  have hm := blk h.mb x (fun hs => by have h2 : H + 4 ≤ H + 3 := h.sup.2 _ hs; omega)
  exact ⟨cell_of_row _ _ 1 _ _ _ hm, by simp [World.frozen?, hm]⟩
end Go.Proofs.YtfiijlmpfpmgiaaGreatDoor

/-
  supsOf, classesAbove, areTypes and isClassKind, of a class that has nothing above it and names no types.
-/
namespace Go.Proofs.YtfiijlmpfpmgiaaGreatDoor
open Go.RowKit

theorem mkB1 (w : World) : (Instr.makeSlice 186 (.int .i64 1) (.int .i64 1)).run Tryz.prog w = .ok (.slice (some ⟨w.heap.size, 0, none⟩) 1 1) (w.alloc (.cells #[.bool false] 4)) := by kernel_rfl
theorem infoB : (Tryz.prog.info? 4).map (fun i => (i.zero, i.size, i.bytes)) = some (some (.bool false), 1, 1) := by kernel_rfl
set_option maxRecDepth 100000 in
set_option maxHeartbeats 1000000 in
theorem supsOf_none (w : World) (p s gc cc : Nat) (oid : ByteArray) (na : Option Addr) (nn nc : Nat) (kind : Int) (h0 : w.cell? ⟨p, 0, none⟩ = some (.pointer (some ⟨s, 0, none⟩))) (h1 : w.cell? ⟨s, 1, none⟩ = some (.slice (some ⟨gc, 0, none⟩) 1 cc)) :
    Calls Tryz.prog 85 #[.pointer (some ⟨p, 0, none⟩), .agg #[.string oid, .slice na nn nc, .slice none 0 0, .int .i8 kind, .slice none 0 0, .slice none 0 0]] w fun e w' => e = .returned (.slice none 0 0) ∧ Ext w w' := by
  go_enter Tryz.func85, Tryz.ntmps85
  have x0 := (Ext.refl w).alloc (.cells #[.string oid, .slice na nn nc, .slice none 0 0, .int .i8 kind, .slice none 0 0, .slice none 0 0] 139)
  have h0' := x0.cell h0
  have h1' := x0.cell h1
  have hm := mkB1
  go_wp2
  refine wp_loop_rounds 1 ?_
  rw [rounds_succ]
  go_wp2
  go_ret
  exact ⟨rfl, x0.alloc _⟩
set_option maxRecDepth 100000 in
set_option maxHeartbeats 1000000 in
theorem isClassKind_one (w : World) : Calls Tryz.prog 90 #[.int .i8 1] w fun e w' => e = .returned (.bool true) ∧ w' = w := by
  go_enter Tryz.func90, Tryz.ntmps90
  go_wp2
  go_ret
  exact ⟨rfl, rfl⟩
set_option maxRecDepth 100000 in
set_option maxHeartbeats 1000000 in
theorem all_nil (w : World) (fv : Value) : Calls Tryz.prog 128 #[.slice none 0 0, fv] w fun e w' => e = .returned (.bool true) ∧ w' = w := by
  go_enter Tryz.func128, Tryz.ntmps128
  go_wp2
  refine wp_loop_rounds 1 ?_
  rw [rounds_succ]
  go_wp2
  go_ret
  exact ⟨rfl, rfl⟩
set_option maxRecDepth 100000 in
set_option maxHeartbeats 1000000 in
theorem areTypes_nil (w : World) (p : Nat) : Calls Tryz.prog 92 #[.pointer (some ⟨p, 0, none⟩), .slice none 0 0] w fun e w' => e = .returned (.bool true) ∧ Ext w w' := by
  have ha := all_nil
  go_enter Tryz.func92, Tryz.ntmps92
  go_wp2_with (go_at_call 128; refine (ha _ _).mono ?_; rintro _ w2 ⟨rfl, rfl⟩)
  go_ret
  exact ⟨rfl, (Ext.refl w).alloc _⟩
set_option maxRecDepth 100000 in
set_option maxHeartbeats 1000000 in
theorem indexI_nil (w : World) (z : Int) : Calls Tryz.prog 158 #[.slice none 0 0, .int .i64 z] w fun e w' => e = .returned (.int .i64 (-1)) ∧ w' = w := by
  go_enter Tryz.func158, Tryz.ntmps158
  go_wp2
  refine wp_loop_rounds 1 ?_
  rw [rounds_succ]
  go_wp2
  go_ret
  exact ⟨rfl, rfl⟩
set_option maxRecDepth 100000 in
set_option maxHeartbeats 1000000 in
theorem containsI_nil (w : World) (z : Int) : Calls Tryz.prog 127 #[.slice none 0 0, .int .i64 z] w fun e w' => e = .returned (.bool false) ∧ w' = w := by
  have ha := indexI_nil
  go_enter Tryz.func127, Tryz.ntmps127
  go_wp2_with (go_at_call 158; refine (ha _ _).mono ?_; rintro _ w2 ⟨rfl, rfl⟩)
  go_ret
  exact ⟨rfl, rfl⟩
set_option maxRecDepth 100000 in
set_option maxHeartbeats 1000000 in
theorem cloneI_nil (w : World) : Calls Tryz.prog 157 #[.slice none 0 0] w fun e w' => e = .returned (.slice none 0 0) ∧ w' = w := by
  have hq : ∀ w, (binOp .eql 131 (.slice none 0 0) (.slice none 0 0)).run Tryz.prog w = .ok (.bool true) w := fun w => eql_nil w _ _ _ _ _ Tryz.underlying131
  go_enter Tryz.func157, Tryz.ntmps157
  go_wp2
  go_ret
  exact ⟨rfl, rfl⟩
set_option maxRecDepth 100000 in
set_option maxHeartbeats 1000000 in
theorem classesAbove_none (w : World) (p gu cu : Nat) (h0 : w.cell? ⟨p, 2, none⟩ = some (.slice (some ⟨gu, 0, none⟩) 1 cu)) (h1 : w.cell? ⟨gu, 0, none⟩ = some (.slice none 0 0)) :
    Calls Tryz.prog 126 #[.pointer (some ⟨p, 0, none⟩), .int .i64 0] w fun e w' => e = .returned (.slice none 0 0) ∧ Ext w w' := by
  have ha := cloneI_nil
  have hm := mkB1
  have x0 := (Ext.refl w).alloc (.cells #[.bool false] 4)
  have h0' := x0.cell h0
  have h1' := x0.cell h1
  go_enter Tryz.func126, Tryz.ntmps126
  go_wp2_with (go_at_call 157; refine (ha _).mono ?_; rintro _ w2 ⟨rfl, rfl⟩)
  refine wp_loop_rounds 1 ?_
  rw [rounds_succ]
  go_wp2
  refine wp_loop_rounds 1 ?_
  rw [rounds_succ]
  go_wp2
  go_ret
  exact ⟨rfl, x0⟩
end Go.Proofs.YtfiijlmpfpmgiaaGreatDoor
