/-
  takeSups and takeClass, of a class that has nothing above it and names no types.
-/
import Derived.Test.YtfiijlmpfpmgiaaGreatDoorSmkcToSsups
import Derived.Test.YtfiijlmpfpmgiaaGreatDoorScheckToStwice
namespace Go.Proofs.YtfiijlmpfpmgiaaGreatDoor
open Go.RowKit

theorem infoSI8 : (Tryz.prog.info? 131).map (fun i => (i.zero, i.size, i.bytes)) = some (some (.slice none 0 0), 1, 24) := by kernel_rfl
/-- a maker whose one class stands at gc -/
structure KcS (p s gc cc gu cu m H : Nat) (tv sv fv av : Value) (cl : Cl) (na : Option Addr) (nn nc : Nat) (pv : Value) (W : World) : Prop where
  mb : W.heap[p]? = some (.cells #[.pointer (some ⟨s, 0, none⟩), sv, .slice (some ⟨gu, 0, none⟩) 1 cu] 134 (0, 0))
  sc : W.heap[s]? = some (.cells #[tv, .slice (some ⟨gc, 0, none⟩) 1 cc, .map (some H), .map (some m), fv, av, pv] 151 (0, 0))
  cl : ∀ j u, (clL cl (.slice na nn nc))[j]? = some u → W.cell? ⟨gc, j, none⟩ = some u
  up : W.cell? ⟨gu, 0, none⟩ = some (.slice none 0 0)
theorem KcS.ext {p s gc cc gu cu m H : Nat} {tv sv fv av : Value} {cl : Cl} {na : Option Addr} {nn nc : Nat} {pv : Value} {W W' : World} (h : KcS p s gc cc gu cu m H tv sv fv av cl na nn nc pv W) (x : Ext W W') : KcS p s gc cc gu cu m H tv sv fv av cl na nn nc pv W' :=
  ⟨(x.block _ (Array.getElem?_eq_some_iff.1 h.mb).1).trans h.mb, (x.block _ (Array.getElem?_eq_some_iff.1 h.sc).1).trans h.sc, fun j u hu => x.cell (h.cl j u hu), x.cell h.up⟩
set_option maxRecDepth 100000 in
set_option maxHeartbeats 4000000 in
theorem takeSups_none (W : World) (p s gc cc gu cu m H : Nat) (tv sv fv av : Value) (cl : Cl) (na : Option Addr) (nn nc : Nat) (h : KcS p s gc cc gu cu m H tv sv fv av cl na nn nc (.slice none 0 0) W) :
    Calls Tryz.prog 91 #[.pointer (some ⟨p, 0, none⟩), .int .i64 0] W fun e W' => e = .returned (.int .i64 0) ∧ Only (fun b => b = s) W W' ∧ ∃ gp cp, W'.heap[s]? = some (.cells #[tv, .slice (some ⟨gc, 0, none⟩) 1 cc, .map (some H), .map (some m), fv, av, .slice (some ⟨gp, 0, none⟩) 1 cp] 151 (0, 0)) := by
  have hmix : Tryz.prog.follows Departure.mixedOrders = true := by kernel_rfl
  have e0 := cell_of_row _ _ 0 _ _ _ h.mb
  have e2 := cell_of_row _ _ 2 _ _ _ h.mb
  have s1 := cell_of_row _ _ 1 _ _ _ h.sc
  simp only [List.getElem?_toArray, List.getElem?_cons_zero, List.getElem?_cons_succ] at e0 e2 s1
  have k2 := h.cl 2 _ rfl
  have hca := classesAbove_none W p gu cu e2 h.up
  have hco := containsI_nil
  have hch : Calls Tryz.prog 126 #[.pointer (some ⟨p, 0, none⟩), .int .i64 0] W fun e w' => e = .returned (.slice none 0 0) ∧ Hid (Ext W w') := hca
  have hh : Hid _ := h
  clear h hca
  go_enter Tryz.func91, Tryz.ntmps91
  go_wp2
  refine wp_loop_rounds 1 ?_
  rw [rounds_succ]
  go_upto_region 12 with (first
    | (go_at_call 126; refine hch.mono ?_; rintro _ w1 ⟨rfl, x1⟩)
    | (go_at_call 127; refine (hco _ _).mono ?_; rintro _ w2 ⟨rfl, hw2⟩; subst w2))
  have h1 := hh.out.ext x1.out
  have f0 := cell_of_row _ _ 0 _ _ _ h1.mb
  have t6 := cell_of_row _ _ 6 _ _ _ h1.sc
  simp only [List.getElem?_toArray, List.getElem?_cons_zero, List.getElem?_cons_succ] at f0 t6
  have f0A : ∀ ob : Obj, (w1.alloc ob).cell? ⟨p, 0, none⟩ = some (.pointer (some ⟨s, 0, none⟩)) := fun ob => ((Ext.refl w1).alloc ob).cell f0
  have t6A : ∀ ob : Obj, (w1.alloc ob).cell? ⟨s, 6, none⟩ = some (.slice none 0 0) := fun ob => ((Ext.refl w1).alloc ob).cell t6
  have h1h : Hid _ := h1
  clear h1
  go_region_law_o ((refine step_push (by rfl) _ _ 132 131 (.slice none 0 0) 1 24 infoSI8 Tryz.underlying132 rfl (by rfl) w1 (by first | exact ((Ext.refl w1).alloc _).drew | exact ((Ext.refl w1).drew).alloc _) (fun _ => False) (.slice none 0 0) 0 [] (row_nil _ _ _ _) (by rfl) w1.heap.size 1 (by rfl) [.slice none 0 0] (by first | exact heap_alloc_new w1 _ | exact heap_alloc_new w1.drew _) (by rfl) (by intro u hu; simp only [List.mem_singleton] at hu; subst hu; rfl) (by decide) (by decide) ?_; intro g5 cap5 w5 r5 o5; have q5 := blk h1h.out.sc o5 (fun h => h); have q6 := blk h1h.out.mb o5 (fun h => h); have c6 := cell_of_row _ _ 6 _ _ _ q5; have c0 := cell_of_row _ _ 0 _ _ _ q6; have z5 := frz q5))
  all_goals go_wp2
  all_goals go_ret
  all_goals
    have q5 := blk h1h.out.sc o5 (fun h => h)
    exact ⟨rfl, ((x1.out.only (S := fun b => b = s)).then (o5.mono (fun g _ h => h.elim))).then (only_set _ _ _ _), g5, cap5, heap_setCell_at _ s 6 _ _ _ _ q5⟩
set_option maxRecDepth 100000 in
set_option maxHeartbeats 4000000 in
theorem takeClass_ok (W : World) (p s gc cc gu cu m H cn : Nat) (cf : List UInt8 → Option Int) (tv sv fv av : Value) (cl : Cl) (na : Option Addr) (nn nc : Nat) (h : KcS p s gc cc gu cu m H tv sv fv av cl na nn nc (.slice none 0 0) W) (hm : MapAt W m cn cf) (hnm : Sl encS W (.slice na nn nc) cl.names)
    (hw : okWords cl.oid cl.names) (hp : okPlace cf 0 cl.oid cl.names) (hk : cl.kind = 1) :
    Calls Tryz.prog 65 #[.pointer (some ⟨p, 0, none⟩), .int .i64 0] W fun e W' => e = .returned (.int .i64 0) ∧ Only (fun b => b = s) W W' ∧ ∃ gp cp, W'.heap[s]? = some (.cells #[tv, .slice (some ⟨gc, 0, none⟩) 1 cc, .map (some H), .map (some m), fv, av, .slice (some ⟨gp, 0, none⟩) 1 cp] 151 (0, 0)) := by
  have hmix : Tryz.prog.follows Departure.mixedOrders = true := by kernel_rfl
  have hcw := fun W' (x : Ext W W') => checkWords_ok W' cl.oid (.slice na nn nc) cl.names (hnm.ext x) hw
  have htw := fun W' (x : Ext W W') => isTwice_ok W' m cn cf 0 cl.oid (.slice na nn nc) cl.names (hm.ext x) (hnm.ext x) hp
  have hck := isClassKind_one
  have hts := fun W' (x : Ext W W') => takeSups_none W' p s gc cc gu cu m H tv sv fv av cl na nn nc (h.ext x)
  have har := fun w => areTypes_nil w p
  have k0 := h.cl 0 _ rfl
  have k1 := h.cl 1 _ rfl
  have k2 := h.cl 2 _ rfl
  have k3 := h.cl 3 _ rfl
  have k4 := h.cl 4 _ rfl
  have k5 := h.cl 5 _ rfl
  rw [hk] at k3
  have e0 := cell_of_row _ _ 0 _ _ _ h.mb
  have s1 := cell_of_row _ _ 1 _ _ _ h.sc
  simp only [List.getElem?_toArray, List.getElem?_cons_zero, List.getElem?_cons_succ] at e0 s1
  have hh : Hid _ := h
  clear h hm hnm hw hp hk
  go_enter Tryz.func65, Tryz.ntmps65
  go_upto_region 2 with fail
  have hT := heap_alloc_new W (.cells #[.string cl.oid, .slice na nn nc, .slice none 0 0, .int .i8 1, .slice none 0 0, .slice none 0 0] 139)
  have x1 : Ext W (W.alloc (.cells #[.string cl.oid, .slice na nn nc, .slice none 0 0, .int .i8 1, .slice none 0 0, .slice none 0 0] 139)) := (Ext.refl W).alloc _
  have hc1 := hcw _ x1
  have hsz : W.heap.size < (W.alloc (.cells #[.string cl.oid, .slice na nn nc, .slice none 0 0, .int .i8 1, .slice none 0 0, .slice none 0 0] 139)).heap.size := by simp
  generalize W.alloc (.cells #[.string cl.oid, .slice na nn nc, .slice none 0 0, .int .i8 1, .slice none 0 0, .slice none 0 0] 139) = w1 at *
  have v0 := cell_of_row _ _ 0 _ _ _ hT
  have v1 := cell_of_row _ _ 1 _ _ _ hT
  simp only [List.getElem?_toArray, List.getElem?_cons_zero, List.getElem?_cons_succ] at v0 v1
  have x1h : Hid (Ext W w1) := x1
  have hTh : Hid _ := hT
  have hszh : Hid (W.heap.size < w1.heap.size) := hsz
  clear hT x1 k0 k1 k2 k3 k4 k5 e0 s1 hcw hsz
  go_upto_region 3 with (go_at_call 86; refine hc1.mono ?_; rintro _ w2 ⟨rfl, x2⟩)
  have x02 : Ext W w2 := x1h.out.trans x2
  have hT2 := (x2.block _ hszh.out).trans hTh.out
  have u0 := cell_of_row _ _ 0 _ _ _ hT2
  have u1 := cell_of_row _ _ 1 _ _ _ hT2
  have u2 := cell_of_row _ _ 2 _ _ _ hT2
  have u3 := cell_of_row _ _ 3 _ _ _ hT2
  have h2 := hh.out.ext x02
  have e0 := cell_of_row _ _ 0 _ _ _ h2.mb
  have s3 := cell_of_row _ _ 3 _ _ _ h2.sc
  simp only [List.getElem?_toArray, List.getElem?_cons_zero, List.getElem?_cons_succ] at u0 u1 u2 u3 e0 s3
  have hq5 : Calls Tryz.prog 87 #[.map (some m), .int .i64 0, .string cl.oid, .slice na nn nc] w2.drew fun e w3 => e = .returned (.bool false) ∧ Hid (Ext w2 w3) := (htw w2.drew x02.drew).mono (by rintro _ w3 ⟨rfl, x3⟩; exact ⟨rfl, (Ext.refl w2).drew.trans x3⟩)
  have x02h : Hid (Ext W w2) := x02
  have hT2h : Hid _ := hT2
  have hsz2 : Hid (W.heap.size < w2.heap.size) := Nat.lt_of_lt_of_le hszh.out x2.size
  clear h2 x02 x2 v0 v1 hc1 hTh htw hT2
  go_upto_region 7 with (go_at_call 90; refine (hck _).mono ?_; rintro _ w3 ⟨rfl, hw3⟩; subst w3)
  go_cut [42] from 43 to 55 (fun s42 wx => s42 = .bool false ∧ Hid (Ext w2 wx))
  case first =>
    go_region_with_o (go_at_call 87; refine hq5.mono ?_; rintro _ w3 ⟨rfl, x3⟩)
    all_goals go_wp2
    all_goals go_meet
    all_goals exact ⟨rfl, x3⟩
  case rest =>
    obtain ⟨rfl, X⟩ := hcut
    clear u0 u1 u2 u3 e0 s3 hq5
    have hs1 := hts wc (x02h.out.trans X.out)
    have hs2 : Calls Tryz.prog 91 #[.pointer (some ⟨p, 0, none⟩), .int .i64 0] wc fun e W' => e = .returned (.int .i64 0) ∧ Hid (Only (fun b => b = s) wc W' ∧ ∃ gp cp, W'.heap[s]? = some (.cells #[tv, .slice (some ⟨gc, 0, none⟩) 1 cc, .map (some H), .map (some m), fv, av, .slice (some ⟨gp, 0, none⟩) 1 cp] 151 (0, 0))) ∧ W'.cell? ⟨W.heap.size, 4, none⟩ = some (.slice none 0 0) ∧ W'.cell? ⟨W.heap.size, 5, none⟩ = some (.slice none 0 0) := by
      refine hs1.mono ?_
      rintro _ W' ⟨rfl, O, R⟩
      have hsW : s < W.heap.size := (Array.getElem?_eq_some_iff.1 hh.out.sc).1
      have b := (X.out.block _ hsz2.out).trans hT2h.out
      have b2 := blk b O (by omega)
      exact ⟨rfl, ⟨O, R⟩, cell_of_row _ _ 4 _ _ _ b2, cell_of_row _ _ 5 _ _ _ b2⟩
    clear hs1 hts
    go_wp2_with (first
      | (go_at_call 91; refine hs2.mono ?_; rintro _ w4 ⟨rfl, HR, y4, y5⟩)
      | (go_at_call 92; refine (har _).mono ?_; rintro _ w5 ⟨rfl, x5⟩; have y5' := x5.cell y5))
    go_at_call 92
    refine (har _).mono ?_
    rintro _ w6 ⟨rfl, x6⟩
    go_wp2
    go_ret
    obtain ⟨O, gp, cp, hR⟩ := HR.out
    have x56 := x5.trans x6
    exact ⟨rfl, (((x02h.out.trans X.out).only (S := fun b => b = s)).then O).ext x56, gp, cp, (x56.block _ (Array.getElem?_eq_some_iff.1 hR).1).trans hR⟩
end Go.Proofs.YtfiijlmpfpmgiaaGreatDoor
