/-
  A reader ends a pair.
-/
import Derived.Test.YtfiijlmpfpmgiaaGreatDoorNmnToOrd
namespace Go.Proofs.YtfiijlmpfpmgiaaGreatDoor
open Go.RowKit

set_option maxRecDepth 100000 in
theorem longIf_any (w : World) (b : Bool) : Calls Tryz.prog 51 #[.bool b] w fun e w' => e = .returned (.int .i64 (if b then 3 else 0)) ∧ w' = w := by
  cases b with
  | true =>
    go_enter Tryz.func51, Tryz.ntmps51
    go_wp2
    go_ret
    exact ⟨rfl, rfl⟩
  | false =>
    go_enter Tryz.func51, Tryz.ntmps51
    go_wp2
    go_ret
    exact ⟨rfl, rfl⟩
theorem slice_of {w : World} {S : Nat → Prop} {e : TypeId} {sz n : Nat} {v : Value} {xs : List Value} (h : Row w S e sz v n xs) : ∃ a c, v = .slice a n c := by
  rcases h.1.2 with ⟨rfl, rfl⟩ | ⟨g', cap, cur, rfl, _⟩
  · exact ⟨none, 0, rfl⟩
  · exact ⟨_, cap, rfl⟩

theorem eq_cell {w0 : World} {R : Nat} {s : ByteArray} {p : Nat} {wd : ByteArray} {fm : Nat} {prs : List Av} {pts : List (List Av)} {pv qv : Value} {us : List Value} {W W' : World} (h : RdM w0 R s ⟨p, wd, fm, prs, pts⟩ pv qv us W) (k : Only (own qv) W W') : RdS W' R s p wd fm pv qv := blk5 h.rd k (fun hs => by have : R < R := h.qrow.2 _ hs; omega)
theorem ep_cell {w0 : World} {R : Nat} {s : ByteArray} {p : Nat} {wd : ByteArray} {fm : Nat} {prs : List Av} {pts : List (List Av)} {pv qv : Value} {us : List Value} {W W' : World} (h : RdM w0 R s ⟨p, wd, fm, prs, pts⟩ pv qv us W) (k : Only (own pv) W W') : RdS W' R s p wd fm pv qv := blk5 h.rd k (fun hs => by have : R < R := h.prow.2 _ hs; omega)
set_option maxRecDepth 100000 in
set_option maxHeartbeats 40000000 in
theorem endPair_any (w0 : World) (R : Nat) (s : ByteArray) (r : RS) (pv qv : Value) (us : List Value) (w : World) (hM : RdM w0 R s r pv qv us w) (hfp : r.frm ≤ r.pos) (hp : r.pos ≤ s.size) (hs : s.size ≤ 140737488355328)
    (g off cap : Nat) (ht : Tab w g off cap) (hok : EscOk (byt (s.extract r.frm r.pos))) (hn : r.prs.length ≤ 1000) (hm : r.pts.length ≤ 1000) :
    Calls Tryz.prog 33 #[.pointer (some ⟨R, 0, none⟩)] w fun e w' => e = .returned (.int .i64 (epP s r).1) ∧ ∃ pv' qv' us', RdM w0 R s (epP s r).2 pv' qv' us' w' := by
  have hmix : Tryz.prog.follows Departure.mixedOrders = true := by kernel_rfl
  obtain ⟨p, wd, fm, prs, pts⟩ := r
  simp only at *
  have hmn := fun w1 (x : Ext w w1) => meaning_any w1 g off cap (ht.ext x) (s.extract fm p) (by rw [ByteArray.size_extract]; omega) hok
  have hu : epP s ⟨p, wd, fm, prs, pts⟩ = if bAt s p = 43 then (if prs.length + 1 = 8 then 3 else 0, { pos := p, word := wd, frm := fm, prs := prs ++ [⟨wd, str (mean (byt (s.extract fm p)))⟩], pts := pts })
      else (if bAt s p = 44 ∧ pts.length + 1 = 64 then 3 else 0, { pos := p, word := wd, frm := fm, prs := [], pts := pts ++ [prs ++ [⟨wd, str (mean (byt (s.extract fm p)))⟩]] }) := rfl
  generalize epP s ⟨p, wd, fm, prs, pts⟩ = o at *
  generalize str (mean (byt (s.extract fm p))) = mv at *
  have huh : Hid (o = _) := hu
  clear hu hok
  obtain ⟨c0, c1, c2, c3, c4, c5, fz⟩ := hM.rd.cells
  obtain ⟨pa, pc, hpe⟩ := slice_of hM.prow
  have hfi : (fm : Int) ≤ (p : Int) := by omega
  have hpi : (p : Int) ≤ (s.size : Int) := by omega
  have hme : ∀ w1, Ext w w1 → Calls Tryz.prog 50 #[.string (s.extract fm p)] w1 fun e w4 => e = .returned (.string mv) ∧ Hid (Ext w w4) ∧ w4.cell? ⟨R, 0, none⟩ = some (.string s) ∧ w4.cell? ⟨R, 1, none⟩ = some (.int .i64 p) ∧ w4.cell? ⟨R, 2, none⟩ = some (.string wd) ∧ w4.cell? ⟨R, 3, none⟩ = some (.int .i64 fm) ∧ w4.cell? ⟨R, 4, none⟩ = some pv ∧ (∀ ob : Obj, (w4.alloc ob).cell? ⟨R, 4, none⟩ = some pv) := by
    intro w1 x1
    refine (hmn _ x1).mono ?_
    rintro _ w4 ⟨rfl, x4⟩
    have x4' : Ext w w4 := x1.trans x4
    exact ⟨rfl, x4', x4'.cell c0, x4'.cell c1, x4'.cell c2, x4'.cell c3, x4'.cell c4, fun ob => (x4'.alloc ob).cell c4⟩
  have hMh : Hid (RdM w0 R s ⟨p, wd, fm, prs, pts⟩ pv qv us w) := hM
  clear hM hmn
  subst hpe
  go_enter Tryz.func33, Tryz.ntmps33
  go_upto_region 1 with fail
  go_cut [] from 4 to 32 (fun wx => ∃ pv', RdM w0 R s ⟨p, wd, fm, prs ++ [⟨wd, mv⟩], pts⟩ pv' qv us wx)
  case first =>
    refine wp_region_last (fun w' => w'.cell? ⟨R, 0, none⟩ = some (.string s) ∧ w'.cell? ⟨R, 1, none⟩ = some (.int .i64 p) ∧ w'.cell? ⟨R, 2, none⟩ = some (.string wd) ∧ w'.cell? ⟨R, 3, none⟩ = some (.int .i64 fm) ∧ w'.cell? ⟨R, 4, none⟩ = some (.slice pa prs.length pc)) 28 hmix ?_
    change wpAnyT _ _ _ _ _ _ 29 _ _ w.drew
    have x1 : Ext w w.drew := (Ext.refl w).drew
    have hme1 := hme _ x1
    have hSw : w.drew.cell? ⟨R, 0, none⟩ = some (.string s) ∧ w.drew.cell? ⟨R, 1, none⟩ = some (.int .i64 p) ∧ w.drew.cell? ⟨R, 2, none⟩ = some (.string wd) ∧ w.drew.cell? ⟨R, 3, none⟩ = some (.int .i64 fm) ∧ w.drew.cell? ⟨R, 4, none⟩ = some (.slice pa prs.length pc) := ⟨x1.cell c0, x1.cell c1, x1.cell c2, x1.cell c3, x1.cell c4⟩
    generalize w.drew = w1 at x1 hme1 hSw ⊢
    clear c0 c1 c2 c3 c4 c5 fz hme
    refine wpAnyT_take (i := 0) (v := ?_) rfl (by kernel_rfl) (by kernel_rfl) (by kernel_rfl) (by kernel_rfl) (fun _ _ _ h => h) (Or.inl ⟨by rfl, ?hy0⟩) hSw ?_
    case hy0 => (intro w' hSw'; obtain ⟨k0, k1, k2, k3, k4⟩ := hSw'; go_simp; try with_reducible rfl)
    dsimp only [Act.put, List.getElem_toArray, List.getElem_cons_zero, List.getElem_cons_succ]
    simp only [List.setIfInBounds_toArray, List.set_cons_zero, List.set_cons_succ]
    refine wpAnyT_take (i := 1) (v := ?_) rfl (by kernel_rfl) (by kernel_rfl) (by kernel_rfl) (by kernel_rfl) (fun _ _ _ h => h) (Or.inl ⟨by rfl, ?hy1⟩) hSw ?_
    case hy1 => (intro w' hSw'; obtain ⟨k0, k1, k2, k3, k4⟩ := hSw'; go_simp; try with_reducible rfl)
    dsimp only [Act.put, List.getElem_toArray, List.getElem_cons_zero, List.getElem_cons_succ]
    simp only [List.setIfInBounds_toArray, List.set_cons_zero, List.set_cons_succ]
    refine wpAnyT_take (i := 2) (v := ?_) rfl (by kernel_rfl) (by kernel_rfl) (by kernel_rfl) (by kernel_rfl) (fun _ _ _ h => h) (Or.inl ⟨by rfl, ?hy2⟩) hSw ?_
    case hy2 => (intro w' hSw'; obtain ⟨k0, k1, k2, k3, k4⟩ := hSw'; go_simp; try with_reducible rfl)
    dsimp only [Act.put, List.getElem_toArray, List.getElem_cons_zero, List.getElem_cons_succ]
    simp only [List.setIfInBounds_toArray, List.set_cons_zero, List.set_cons_succ]
    refine wpAnyT_take (i := 3) (v := ?_) rfl (by kernel_rfl) (by kernel_rfl) (by kernel_rfl) (by kernel_rfl) (fun _ _ _ h => h) (Or.inl ⟨by rfl, ?hy3⟩) hSw ?_
    case hy3 => (intro w' hSw'; obtain ⟨k0, k1, k2, k3, k4⟩ := hSw'; go_simp; try with_reducible rfl)
    dsimp only [Act.put, List.getElem_toArray, List.getElem_cons_zero, List.getElem_cons_succ]
    simp only [List.setIfInBounds_toArray, List.set_cons_zero, List.set_cons_succ]
    refine wpAnyT_take (i := 4) (v := ?_) rfl (by kernel_rfl) (by kernel_rfl) (by kernel_rfl) (by kernel_rfl) (fun _ _ _ h => h) (Or.inl ⟨by rfl, ?hy4⟩) hSw ?_
    case hy4 => (intro w' hSw'; obtain ⟨k0, k1, k2, k3, k4⟩ := hSw'; go_simp; try with_reducible rfl)
    dsimp only [Act.put, List.getElem_toArray, List.getElem_cons_zero, List.getElem_cons_succ]
    simp only [List.setIfInBounds_toArray, List.set_cons_zero, List.set_cons_succ]
    refine wpAnyT_take (i := 5) (v := ?_) rfl (by kernel_rfl) (by kernel_rfl) (by kernel_rfl) (by kernel_rfl) (fun _ _ _ h => h) (Or.inl ⟨by rfl, ?hy5⟩) hSw ?_
    case hy5 => (intro w' hSw'; obtain ⟨k0, k1, k2, k3, k4⟩ := hSw'; go_simp; try with_reducible rfl)
    dsimp only [Act.put, List.getElem_toArray, List.getElem_cons_zero, List.getElem_cons_succ]
    simp only [List.setIfInBounds_toArray, List.set_cons_zero, List.set_cons_succ]
    refine wpAnyT_take (i := 6) (v := ?_) rfl (by kernel_rfl) (by kernel_rfl) (by kernel_rfl) (by kernel_rfl) (fun _ _ _ h => h) (Or.inl ⟨by rfl, ?hy6⟩) hSw ?_
    case hy6 => (intro w' hSw'; obtain ⟨k0, k1, k2, k3, k4⟩ := hSw'; go_simp; try with_reducible rfl)
    dsimp only [Act.put, List.getElem_toArray, List.getElem_cons_zero, List.getElem_cons_succ]
    simp only [List.setIfInBounds_toArray, List.set_cons_zero, List.set_cons_succ]
    refine wpAnyT_take (i := 7) (v := ?_) rfl (by kernel_rfl) (by kernel_rfl) (by kernel_rfl) (by kernel_rfl) (fun _ _ _ h => h) (Or.inl ⟨by rfl, ?hy7⟩) hSw ?_
    case hy7 => (intro w' hSw'; obtain ⟨k0, k1, k2, k3, k4⟩ := hSw'; go_simp; try with_reducible rfl)
    dsimp only [Act.put, List.getElem_toArray, List.getElem_cons_zero, List.getElem_cons_succ]
    simp only [List.setIfInBounds_toArray, List.set_cons_zero, List.set_cons_succ]
    refine wpAnyT_take (i := 8) (v := ?_) rfl (by kernel_rfl) (by kernel_rfl) (by kernel_rfl) (by kernel_rfl) (fun _ _ _ h => h) (Or.inl ⟨by rfl, ?hy8⟩) hSw ?_
    case hy8 => (intro w' hSw'; obtain ⟨k0, k1, k2, k3, k4⟩ := hSw'; go_simp; try with_reducible rfl)
    dsimp only [Act.put, List.getElem_toArray, List.getElem_cons_zero, List.getElem_cons_succ]
    simp only [List.setIfInBounds_toArray, List.set_cons_zero, List.set_cons_succ]
    refine wpAnyT_take (i := 9) (v := ?_) rfl (by kernel_rfl) (by kernel_rfl) (by kernel_rfl) (by kernel_rfl) (fun _ _ _ h => h) (Or.inl ⟨by rfl, ?hy9⟩) hSw ?_
    case hy9 => (intro w' hSw'; obtain ⟨k0, k1, k2, k3, k4⟩ := hSw'; go_simp; try with_reducible rfl)
    dsimp only [Act.put, List.getElem_toArray, List.getElem_cons_zero, List.getElem_cons_succ]
    simp only [List.setIfInBounds_toArray, List.set_cons_zero, List.set_cons_succ]
    refine wpAnyT_take (i := 10) (v := ?_) rfl (by kernel_rfl) (by kernel_rfl) (by kernel_rfl) (by kernel_rfl) (fun _ _ _ h => h) (Or.inl ⟨by rfl, ?hy10⟩) hSw ?_
    case hy10 => (intro w' hSw'; obtain ⟨k0, k1, k2, k3, k4⟩ := hSw'; go_simp; try with_reducible rfl)
    dsimp only [Act.put, List.getElem_toArray, List.getElem_cons_zero, List.getElem_cons_succ]
    simp only [List.setIfInBounds_toArray, List.set_cons_zero, List.set_cons_succ]
    refine wpAnyT_take (i := 11) (v := ?_) rfl (by kernel_rfl) (by kernel_rfl) (by kernel_rfl) (by kernel_rfl) (fun _ _ _ h => h) (Or.inl ⟨by rfl, ?hy11⟩) hSw ?_
    case hy11 => (intro w' hSw'; obtain ⟨k0, k1, k2, k3, k4⟩ := hSw'; go_simp; try with_reducible rfl)
    dsimp only [Act.put, List.getElem_toArray, List.getElem_cons_zero, List.getElem_cons_succ]
    simp only [List.setIfInBounds_toArray, List.set_cons_zero, List.set_cons_succ]
    refine wpAnyT_take (i := 12) (v := ?_) rfl (by kernel_rfl) (by kernel_rfl) (by kernel_rfl) (by kernel_rfl) (fun _ _ _ h => h) (Or.inl ⟨by rfl, ?hy12⟩) hSw ?_
    case hy12 => (intro w' hSw'; obtain ⟨k0, k1, k2, k3, k4⟩ := hSw'; go_simp; try with_reducible rfl)
    dsimp only [Act.put, List.getElem_toArray, List.getElem_cons_zero, List.getElem_cons_succ]
    simp only [List.setIfInBounds_toArray, List.set_cons_zero, List.set_cons_succ]
    refine wpAnyT_take (i := 13) (v := ?_) rfl (by kernel_rfl) (by kernel_rfl) (by kernel_rfl) (by kernel_rfl) (fun _ _ _ h => h) (Or.inl ⟨by rfl, ?hy13⟩) hSw ?_
    case hy13 => (intro w' hSw'; obtain ⟨k0, k1, k2, k3, k4⟩ := hSw'; go_simp; try with_reducible rfl)
    dsimp only [Act.put, List.getElem_toArray, List.getElem_cons_zero, List.getElem_cons_succ]
    simp only [List.setIfInBounds_toArray, List.set_cons_zero, List.set_cons_succ]
    refine wpAnyT_take (i := 14) (v := ?_) rfl (by kernel_rfl) (by kernel_rfl) (by kernel_rfl) (by kernel_rfl) (fun _ _ _ h => h) (Or.inl ⟨by rfl, ?hy14⟩) hSw ?_
    case hy14 => (intro w' hSw'; obtain ⟨k0, k1, k2, k3, k4⟩ := hSw'; go_simp; try with_reducible rfl)
    dsimp only [Act.put, List.getElem_toArray, List.getElem_cons_zero, List.getElem_cons_succ]
    simp only [List.setIfInBounds_toArray, List.set_cons_zero, List.set_cons_succ]
    refine wpAnyT_take (i := 15) (v := ?_) rfl (by kernel_rfl) (by kernel_rfl) (by kernel_rfl) (by kernel_rfl) (fun _ _ _ h => h) (Or.inl ⟨by rfl, ?hy15⟩) hSw ?_
    case hy15 => (intro w' hSw'; obtain ⟨k0, k1, k2, k3, k4⟩ := hSw'; go_simp; try with_reducible rfl)
    dsimp only [Act.put, List.getElem_toArray, List.getElem_cons_zero, List.getElem_cons_succ]
    simp only [List.setIfInBounds_toArray, List.set_cons_zero, List.set_cons_succ]
    refine wpAnyT_take (i := 16) (v := ?_) rfl (by kernel_rfl) (by kernel_rfl) (by kernel_rfl) (by kernel_rfl) (fun _ _ _ h => h) (Or.inl ⟨by rfl, ?hy16⟩) hSw ?_
    case hy16 => (intro w' hSw'; obtain ⟨k0, k1, k2, k3, k4⟩ := hSw'; go_simp; try with_reducible rfl)
    dsimp only [Act.put, List.getElem_toArray, List.getElem_cons_zero, List.getElem_cons_succ]
    simp only [List.setIfInBounds_toArray, List.set_cons_zero, List.set_cons_succ]
    refine wpAnyT_take (i := 17) (v := ?_) rfl (by kernel_rfl) (by kernel_rfl) (by kernel_rfl) (by kernel_rfl) (fun _ _ _ h => h) (Or.inl ⟨by rfl, ?hy17⟩) hSw ?_
    case hy17 => (intro w' hSw'; obtain ⟨k0, k1, k2, k3, k4⟩ := hSw'; go_simp; try with_reducible rfl)
    dsimp only [Act.put, List.getElem_toArray, List.getElem_cons_zero, List.getElem_cons_succ]
    simp only [List.setIfInBounds_toArray, List.set_cons_zero, List.set_cons_succ]
    refine wpAnyT_take (i := 18) (v := ?_) rfl (by kernel_rfl) (by kernel_rfl) (by kernel_rfl) (by kernel_rfl) (fun _ _ _ h => h) (Or.inl ⟨by rfl, ?hy18⟩) hSw ?_
    case hy18 => (intro w' hSw'; obtain ⟨k0, k1, k2, k3, k4⟩ := hSw'; go_simp; try with_reducible rfl)
    dsimp only [Act.put, List.getElem_toArray, List.getElem_cons_zero, List.getElem_cons_succ]
    simp only [List.setIfInBounds_toArray, List.set_cons_zero, List.set_cons_succ]
    refine wpAnyT_take (i := 19) (v := ?_) rfl (by kernel_rfl) (by kernel_rfl) (by kernel_rfl) (by kernel_rfl) (fun _ _ _ h => h) (Or.inl ⟨by rfl, ?hy19⟩) hSw ?_
    case hy19 => (intro w' hSw'; obtain ⟨k0, k1, k2, k3, k4⟩ := hSw'; go_simp; try with_reducible rfl)
    dsimp only [Act.put, List.getElem_toArray, List.getElem_cons_zero, List.getElem_cons_succ]
    simp only [List.setIfInBounds_toArray, List.set_cons_zero, List.set_cons_succ]
    refine wpAnyT_take (i := 20) (v := ?_) rfl (by kernel_rfl) (by kernel_rfl) (by kernel_rfl) (by kernel_rfl) (fun _ _ _ h => h) (Or.inl ⟨by rfl, ?hy20⟩) hSw ?_
    case hy20 => (intro w' hSw'; obtain ⟨k0, k1, k2, k3, k4⟩ := hSw'; go_simp; try with_reducible rfl)
    dsimp only [Act.put, List.getElem_toArray, List.getElem_cons_zero, List.getElem_cons_succ]
    simp only [List.setIfInBounds_toArray, List.set_cons_zero, List.set_cons_succ]
    refine wpAnyT_take (i := 21) (v := ?_) rfl (by kernel_rfl) (by kernel_rfl) (by kernel_rfl) (by kernel_rfl) (fun _ _ _ h => h) (Or.inl ⟨by rfl, ?hy21⟩) hSw ?_
    case hy21 => (intro w' hSw'; obtain ⟨k0, k1, k2, k3, k4⟩ := hSw'; go_simp; try with_reducible rfl)
    dsimp only [Act.put, List.getElem_toArray, List.getElem_cons_zero, List.getElem_cons_succ]
    simp only [List.setIfInBounds_toArray, List.set_cons_zero, List.set_cons_succ]
    refine wpAnyT_one (i := 22) rfl (by kernel_rfl) ?_
    rw [if_pos (by rfl)]
    go_simp
    go_at_call 50
    refine hme1.mono ?_
    rintro _ w4 ⟨rfl, hx4, e0, e1, e2, e3, e4, e4A⟩
    dsimp only
    refine ⟨⟨e0, e1, e2, e3, e4⟩, ?_⟩
    refine wpAnyT_one (i := 23) rfl (by kernel_rfl) ?_
    rw [if_pos (by rfl)]
    go_simp
    try refine ⟨⟨e0, e1, e2, e3, e4⟩, ?_⟩
    refine wpAnyT_one (i := 24) rfl (by kernel_rfl) ?_
    rw [if_pos (by rfl)]
    go_simp
    refine ⟨⟨((Ext.refl w4).alloc _).cell e0, ((Ext.refl w4).alloc _).cell e1, ((Ext.refl w4).alloc _).cell e2, ((Ext.refl w4).alloc _).cell e3⟩, ?_⟩
    refine wpAnyT_one (i := 25) rfl (by kernel_rfl) ?_
    refine step_push (by rfl) _ _ 43 48 _ 2 32 infoAva Tryz.underlying43 rfl (by rfl) w4 (by exact (Ext.refl w4).alloc _) (own (.slice pa prs.length pc)) (.slice pa prs.length pc) prs.length (flatA prs) (Row.min (hMh.out.grow hx4.out).prow) (by rfl) w4.heap.size 1 (by rfl) [.string wd, .string mv] (heap_alloc_new w4 _) (by rfl) (by intro u hu; simp only [List.mem_cons, List.not_mem_nil, or_false] at hu; rcases hu with rfl | rfl <;> rfl) (by unfold maxLen; omega) (by omega) ?_
    intro g5 cap5 w5 r5 o5
    obtain ⟨q0, q1, q2, q3, q4, q5, f1⟩ := (ep_cell (hMh.out.grow hx4.out) o5).cells
    refine ⟨fun _ => ⟨q0, q1, q2, q3, q4⟩, ?_⟩
    dsimp only [Act.put, List.getElem_toArray, List.getElem_cons_zero, List.getElem_cons_succ]
    simp only [List.setIfInBounds_toArray, List.set_cons_zero, List.set_cons_succ]
    refine wpAnyT_one (i := 26) rfl (by kernel_rfl) ?_
    rw [if_pos (by rfl)]
    go_simp
    try refine ⟨⟨q0, q1, q2, q3, q4⟩, ?_⟩
    refine wpAnyT_one (i := 27) rfl (by kernel_rfl) ?_
    rw [if_pos (by rfl)]
    go_simp
    try refine ⟨⟨q0, q1, q2, q3, q4⟩, ?_⟩
    refine wpAnyT_one (i := 28) rfl (by kernel_rfl) ?_
    rw [if_pos (by rfl)]
    go_simp
    refine wpAnyT_done (by kernel_rfl) ?_
    go_wp2
    go_meet
    exact ⟨_, RdM.pushP (x := ⟨wd, mv⟩) (hMh.out.grow hx4.out) r5 o5⟩
  case rest =>
    obtain ⟨pv2, M1⟩ := hcut
    clear c0 c1 c2 c3 c4 c5 fz hme hMh
    obtain ⟨c0, c1, c2, c3, c4, c5, fz⟩ := M1.rd.cells
    obtain ⟨a2, k2, hpe2⟩ := slice_of M1.prow
    subst hpe2
    have hl2 : (prs ++ [(⟨wd, mv⟩ : Av)]).length = prs.length + 1 := by simp
    have hba := byteAt_any _ R s p c0
    have M1h : Hid (RdM w0 R s ⟨p, wd, fm, prs ++ [⟨wd, mv⟩], pts⟩ (.slice a2 (prs ++ [(⟨wd, mv⟩ : Av)]).length k2) qv us _) := M1
    clear M1
    by_cases h43 : bAt s p = 43
    · have hv : Hid (o = (if prs.length + 1 = 8 then 3 else 0, { pos := p, word := wd, frm := fm, prs := prs ++ [⟨wd, mv⟩], pts := pts })) := by show o = _; rw [huh.out, if_pos h43]
      rw [h43] at hba
      clear h43 huh
      have hli := fun w => longIf_any w (((prs ++ [(⟨wd, mv⟩ : Av)]).length : Int) == 8)
      have hl2h : Hid ((prs ++ [(⟨wd, mv⟩ : Av)]).length = prs.length + 1) := hl2
      clear hl2
      generalize (prs ++ [(⟨wd, mv⟩ : Av)]).length = n2 at *
      go_wp2_with (first | (go_at_call 30; refine hba.mono ?_; rintro _ _ ⟨rfl, rfl⟩) | (go_at_call 51; refine (hli _).mono ?_; rintro _ _ ⟨rfl, rfl⟩))
      all_goals
        go_ret
        rw [hv.out]
        refine ⟨ret_i ?_, _, _, _, M1h.out⟩
        have h9 := hl2h.out
        first
          | rw [if_pos (by omega)]
          | rw [if_neg (by omega)]
    · have hv : Hid (o = (if bAt s p = 44 ∧ pts.length + 1 = 64 then 3 else 0, { pos := p, word := wd, frm := fm, prs := [], pts := pts ++ [prs ++ [⟨wd, mv⟩]] })) := by show o = _; rw [huh.out, if_neg h43]
      have hb43 : (bAt s p == 43) = false := by simpa using h43
      have hul : Hid (us.length = pts.length) := M1h.out.pts.1
      have hm3 : us.length ≤ 1000 := by have := hul.out; omega
      obtain ⟨qa, qc, hqe⟩ := slice_of M1h.out.qrow
      subst hqe
      clear h43 huh hl2
      generalize bAt s p = z at *
      go_wp2_with (first | (go_at_call 30; refine hba.mono ?_; rintro _ w1 ⟨rfl, rfl⟩))
      generalize hn2 : (prs ++ [(⟨wd, mv⟩ : Av)]).length = n2 at *
      obtain ⟨m1, hm1⟩ : ∃ m1, Hid (m1 = us.length + 1) := ⟨_, rfl⟩
      go_cut [] from 47 to 61 (fun wx => ∃ qa2 qc2, RdS wx R s p wd fm (.slice a2 n2 k2) (.slice qa2 m1 qc2) ∧ RdM w0 R s ⟨p, wd, fm, [], pts ++ [prs ++ [⟨wd, mv⟩]]⟩ (.slice none 0 0) (.slice qa2 m1 qc2) (us ++ [.slice a2 n2 k2]) (wx.setCell ⟨R, 4, none⟩ (.slice none 0 0)))
      case first =>
        refine wp_region_last (fun w' => w'.cell? ⟨R, 4, none⟩ = some (.slice a2 n2 k2) ∧ w'.cell? ⟨R, 5, none⟩ = some (.slice qa us.length qc)) 14 hmix ?_
        change wpAnyT _ _ _ _ _ _ 15 _ _ (World.drew w1)
        have M2h : Hid (RdM w0 R s ⟨p, wd, fm, prs ++ [⟨wd, mv⟩], pts⟩ (.slice a2 n2 k2) (.slice qa us.length qc) us w1.drew) := M1h.out.grow (Ext.refl w1).drew
        clear c0 c1 c2 c3 c4 c5 fz M1h hba
        generalize w1.drew = w4 at M2h ⊢
        have hSw : w4.cell? ⟨R, 4, none⟩ = some (.slice a2 n2 k2) ∧ w4.cell? ⟨R, 5, none⟩ = some (.slice qa us.length qc) := ⟨M2h.out.rd.cells.2.2.2.2.1, M2h.out.rd.cells.2.2.2.2.2.1⟩
        refine wpAnyT_take (i := 0) (v := ?_) rfl (by kernel_rfl) (by kernel_rfl) (by kernel_rfl) (by kernel_rfl) (fun _ _ _ h => h) (Or.inl ⟨by rfl, ?hz0⟩) hSw ?_
        case hz0 => (intro w' hSw'; obtain ⟨k4, k5⟩ := hSw'; go_simp; try with_reducible rfl)
        dsimp only [Act.put, List.getElem_toArray, List.getElem_cons_zero, List.getElem_cons_succ]
        simp only [List.setIfInBounds_toArray, List.set_cons_zero, List.set_cons_succ]
        refine wpAnyT_take (i := 1) (v := ?_) rfl (by kernel_rfl) (by kernel_rfl) (by kernel_rfl) (by kernel_rfl) (fun _ _ _ h => h) (Or.inl ⟨by rfl, ?hz1⟩) hSw ?_
        case hz1 => (intro w' hSw'; obtain ⟨k4, k5⟩ := hSw'; go_simp; try with_reducible rfl)
        dsimp only [Act.put, List.getElem_toArray, List.getElem_cons_zero, List.getElem_cons_succ]
        simp only [List.setIfInBounds_toArray, List.set_cons_zero, List.set_cons_succ]
        refine wpAnyT_take (i := 2) (v := ?_) rfl (by kernel_rfl) (by kernel_rfl) (by kernel_rfl) (by kernel_rfl) (fun _ _ _ h => h) (Or.inl ⟨by rfl, ?hz2⟩) hSw ?_
        case hz2 => (intro w' hSw'; obtain ⟨k4, k5⟩ := hSw'; go_simp; try with_reducible rfl)
        dsimp only [Act.put, List.getElem_toArray, List.getElem_cons_zero, List.getElem_cons_succ]
        simp only [List.setIfInBounds_toArray, List.set_cons_zero, List.set_cons_succ]
        refine wpAnyT_take (i := 3) (v := ?_) rfl (by kernel_rfl) (by kernel_rfl) (by kernel_rfl) (by kernel_rfl) (fun _ _ _ h => h) (Or.inl ⟨by rfl, ?hz3⟩) hSw ?_
        case hz3 => (intro w' hSw'; obtain ⟨k4, k5⟩ := hSw'; go_simp; try with_reducible rfl)
        dsimp only [Act.put, List.getElem_toArray, List.getElem_cons_zero, List.getElem_cons_succ]
        simp only [List.setIfInBounds_toArray, List.set_cons_zero, List.set_cons_succ]
        refine wpAnyT_take (i := 4) (v := ?_) rfl (by kernel_rfl) (by kernel_rfl) (by kernel_rfl) (by kernel_rfl) (fun _ _ _ h => h) (Or.inl ⟨by rfl, ?hz4⟩) hSw ?_
        case hz4 => (intro w' hSw'; obtain ⟨k4, k5⟩ := hSw'; go_simp; try with_reducible rfl)
        dsimp only [Act.put, List.getElem_toArray, List.getElem_cons_zero, List.getElem_cons_succ]
        simp only [List.setIfInBounds_toArray, List.set_cons_zero, List.set_cons_succ]
        refine wpAnyT_take (i := 5) (v := ?_) rfl (by kernel_rfl) (by kernel_rfl) (by kernel_rfl) (by kernel_rfl) (fun _ _ _ h => h) (Or.inl ⟨by rfl, ?hz5⟩) hSw ?_
        case hz5 => (intro w' hSw'; obtain ⟨k4, k5⟩ := hSw'; go_simp; try with_reducible rfl)
        dsimp only [Act.put, List.getElem_toArray, List.getElem_cons_zero, List.getElem_cons_succ]
        simp only [List.setIfInBounds_toArray, List.set_cons_zero, List.set_cons_succ]
        refine wpAnyT_take (i := 6) (v := ?_) rfl (by kernel_rfl) (by kernel_rfl) (by kernel_rfl) (by kernel_rfl) (fun _ _ _ h => h) (Or.inl ⟨by rfl, ?hz6⟩) hSw ?_
        case hz6 => (intro w' hSw'; obtain ⟨k4, k5⟩ := hSw'; go_simp; try with_reducible rfl)
        dsimp only [Act.put, List.getElem_toArray, List.getElem_cons_zero, List.getElem_cons_succ]
        simp only [List.setIfInBounds_toArray, List.set_cons_zero, List.set_cons_succ]
        refine wpAnyT_take (i := 7) (v := ?_) rfl (by kernel_rfl) (by kernel_rfl) (by kernel_rfl) (by kernel_rfl) (fun _ _ _ h => h) (Or.inl ⟨by rfl, ?hz7⟩) hSw ?_
        case hz7 => (intro w' hSw'; obtain ⟨k4, k5⟩ := hSw'; go_simp; try with_reducible rfl)
        dsimp only [Act.put, List.getElem_toArray, List.getElem_cons_zero, List.getElem_cons_succ]
        simp only [List.setIfInBounds_toArray, List.set_cons_zero, List.set_cons_succ]
        refine wpAnyT_take (i := 8) (v := ?_) rfl (by kernel_rfl) (by kernel_rfl) (by kernel_rfl) (by kernel_rfl) (fun _ _ _ h => h) (Or.inl ⟨by rfl, ?hz8⟩) hSw ?_
        case hz8 => (intro w' hSw'; obtain ⟨k4, k5⟩ := hSw'; go_simp; try with_reducible rfl)
        dsimp only [Act.put, List.getElem_toArray, List.getElem_cons_zero, List.getElem_cons_succ]
        simp only [List.setIfInBounds_toArray, List.set_cons_zero, List.set_cons_succ]
        refine wpAnyT_take (i := 9) (v := ?_) rfl (by kernel_rfl) (by kernel_rfl) (by kernel_rfl) (by kernel_rfl) (fun _ _ _ h => h) (Or.inl ⟨by rfl, ?hz9⟩) hSw ?_
        case hz9 => (intro w' hSw'; obtain ⟨k4, k5⟩ := hSw'; go_simp; try with_reducible rfl)
        dsimp only [Act.put, List.getElem_toArray, List.getElem_cons_zero, List.getElem_cons_succ]
        simp only [List.setIfInBounds_toArray, List.set_cons_zero, List.set_cons_succ]
        obtain ⟨e4, e5⟩ := hSw
        refine wpAnyT_one (i := 10) rfl (by kernel_rfl) ?_
        rw [if_pos (by rfl)]
        go_simp
        refine ⟨⟨((Ext.refl w4).alloc _).cell e4, ((Ext.refl w4).alloc _).cell e5⟩, ?_⟩
        refine wpAnyT_one (i := 11) rfl (by kernel_rfl) ?_
        refine step_push (by rfl) _ _ 22 45 _ 1 24 infoRdn Tryz.underlying22 rfl (by rfl) w4 (by exact (Ext.refl w4).alloc _) (own (.slice qa us.length qc)) (.slice qa us.length qc) us.length us (Row.min M2h.out.qrow) (by rfl) w4.heap.size 1 (by rfl) [.slice a2 n2 k2] (heap_alloc_new w4 _) (by rfl) (by intro u hu; simp only [List.mem_singleton] at hu; subst hu; rfl) (by unfold maxLen; omega) (by omega) ?_
        intro g5 cap5 w5 r5 o5
        have R5 := eq_cell M2h.out o5
        obtain ⟨q0, q1, q2, q3, q4, q5, f1⟩ := R5.cells
        have R5h : Hid (RdS w5 R s p wd fm (.slice a2 n2 k2) (.slice qa us.length qc)) := R5
        clear R5
        refine ⟨fun _ => ⟨q4, q5⟩, ?_⟩
        dsimp only [Act.put, List.getElem_toArray, List.getElem_cons_zero, List.getElem_cons_succ]
        simp only [List.setIfInBounds_toArray, List.set_cons_zero, List.set_cons_succ]
        refine wpAnyT_one (i := 12) rfl (by kernel_rfl) ?_
        rw [if_pos (by rfl)]
        go_simp
        refine wpAnyT_one (i := 13) rfl (by kernel_rfl) ?_
        rw [if_pos (by rfl)]
        go_simp
        refine wpAnyT_one (i := 14) rfl (by kernel_rfl) ?_
        rw [if_pos (by rfl)]
        go_simp
        refine wpAnyT_done (by kernel_rfl) ?_
        go_wp2
        go_meet
        have hm2 := hm1.out
        subst hm2
        exact ⟨_, _, R5h.out.set5 _, RdM.pushQ M2h.out r5 o5⟩
      case rest =>
        obtain ⟨qa2, qc2, R6, M7⟩ := hcut
        clear c0 c1 c2 c3 c4 c5 fz M1h hba
        obtain ⟨c0, c1, c2, c3, c4, c5, fz⟩ := R6.cells
        have M7h : Hid _ := M7
        obtain ⟨d0, d1, d2, d3, d4, d5, fd⟩ := M7.rd.cells
        clear M7 R6
        go_wp2_with (go_at_call 51; refine (longIf_any _ _).mono ?_; rintro _ w9 ⟨rfl, rfl⟩)
        all_goals
          go_ret
          rw [hv.out]
          refine ⟨ret_i ?_, _, _, _, M7h.out⟩
          have h8 := hm1.out
          have h9 := hul.out
          first
            | rw [if_pos ⟨by omega, by omega⟩]
            | rw [if_neg (by rintro ⟨g1, g2⟩; omega)]
end Go.Proofs.YtfiijlmpfpmgiaaGreatDoor
