/-
  The table of rules; rulesOf, allRules, takeRules, of types that have nothing above them.
-/
import Derived.Test.YtfiijlmpfpmgiaaGreatDoorStk
namespace Go.Proofs.YtfiijlmpfpmgiaaGreatDoor
open Go.RowKit

/-- kind, syntax and form of each rule -/
def srT : List (Int × Int × Int) := [(-1, -1, -1), (0, 0, 0), (1, 0, 0), (2, 0, 0), (0, 0, 1), (1, 0, 1), (2, 0, 1), (0, 1, 2), (1, 1, 2), (2, 1, 2), (0, 2, 3), (2, 2, 3), (0, 3, 4), (1, 3, 4), (0, 4, 5), (0, 5, 6), (1, 5, 6), (0, 6, 7), (1, 6, 7), (0, 7, -1), (0, 8, 8)]
def srAt (r : Nat) : Int × Int × Int := srT.getD r (0, 0, 0)
def HasRules (w : World) : Prop := ∀ r, r < 21 → w.cell? ⟨6, r * 5 + 2, none⟩ = some (.int .i8 (srAt r).1) ∧ w.cell? ⟨6, r * 5 + 3, none⟩ = some (.int .i8 (srAt r).2.1) ∧ w.cell? ⟨6, r * 5 + 4, none⟩ = some (.int .i8 (srAt r).2.2)
theorem HasRules.ext {w w' : World} (h : HasRules w) (x : Ext w w') : HasRules w' := fun r hr => ⟨x.cell (h r hr).1, x.cell (h r hr).2.1, x.cell (h r hr).2.2⟩
theorem HasRules.only {S : Nat → Prop} {w w' : World} (h : HasRules w) (x : Only S w w') (hS : ¬ S 6) : HasRules w' := fun r hr => ⟨x.cell (h r hr).1 hS, x.cell (h r hr).2.1 hS, x.cell (h r hr).2.2 hS⟩

set_option maxRecDepth 100000 in
set_option maxHeartbeats 1000000 in
theorem isRule_ok (w : World) (r : Nat) (hr : r < 21) : Calls Tryz.prog 156 #[.int .i8 (r : Int)] w fun e w' => e = .returned (.bool true) ∧ w' = w := by
  have h1 : (r : Int) < 21 := by omega
  go_enter Tryz.func156, Tryz.ntmps156
  go_wp2
  go_ret
  exact ⟨rfl, rfl⟩
set_option maxRecDepth 100000 in
set_option maxHeartbeats 1000000 in
theorem isSyntax_ok (w : World) (r : Nat) (hr : r < 9) : Calls Tryz.prog 122 #[.int .i8 (r : Int)] w fun e w' => e = .returned (.bool true) ∧ w' = w := by
  have h1 : (r : Int) < 9 := by omega
  go_enter Tryz.func122, Tryz.ntmps122
  go_wp2
  go_ret
  exact ⟨rfl, rfl⟩
set_option maxRecDepth 100000 in
set_option maxHeartbeats 1000000 in
theorem isRuleFor_ok (w : World) (ht : HasRules w) (r : Nat) (hr : r < 21) (kd sy : Int) (h1 : (srAt r).1 = kd) (h2 : (srAt r).2.1 = sy) (hk0 : 0 ≤ kd) (hk2 : kd ≤ 2) :
    Calls Tryz.prog 124 #[.int .i8 (r : Int), .int .i64 kd, .int .i8 sy] w fun e w' => e = .returned (.bool true) ∧ w' = w := by
  have hi := fun w => isRule_ok w r hr
  obtain ⟨c1, c2, c3⟩ := ht r hr
  rw [h1] at c1
  rw [h2] at c2
  have hri : (r : Int) < 21 := by omega
  clear h1 h2 c3
  go_enter Tryz.func124, Tryz.ntmps124
  go_wp2_with (go_at_call 156; refine (hi _).mono ?_; rintro _ w2 ⟨rfl, rfl⟩)
  go_ret
  exact ⟨rfl, rfl⟩
theorem three {w : World} {g : Nat} {c0 c1 c2 : Value} {t : TypeId} {fz : Nat × Nat} (h : w.heap[g]? = some (.cells #[c0, c1, c2] t fz)) : ∀ j v, [c0, c1, c2][j]? = some v → w.cell? ((⟨g, 0, none⟩ : Addr).add j) = some v := by
  intro j v hv
  rw [Addr.add_lit, Nat.zero_add, cell_of_row _ _ j _ _ _ h]
  simpa using hv
set_option maxRecDepth 100000 in
set_option maxHeartbeats 1000000 in
theorem rulesOf_any (w : World) (c0 c1 c2 c3 c7 c8 : Value) (e o p : Int) :
    Calls Tryz.prog 123 #[.agg #[c0, c1, c2, c3, .int .i8 e, .int .i8 o, .int .i8 p, c7, c8]] w fun x w' => x = .returned (.agg #[.int .i8 e, .int .i8 o, .int .i8 p]) ∧ Ext w w' := by
  go_enter Tryz.func123, Tryz.ntmps123
  go_wp2
  have H1 := heap_alloc_new (w.alloc (.cells #[c0, c1, c2, c3, .int .i8 e, .int .i8 o, .int .i8 p, c7, c8] 137)) (.cells #[.int .i8 e, .int .i8 o, .int .i8 p] 189)
  simp only [World.size_alloc] at H1
  refine bodyPost_ret (results_agg rfl _ _ (w.heap.size + 1) [.int .i8 e, .int .i8 o, .int .i8 p] 3 rfl Tryz.isAgg189 Tryz.sizeOf189 rfl (three H1)) rfl ?_
  exact ⟨rfl, ((Ext.refl w).alloc _).alloc _⟩

/-- what stands above a type: nothing -/
theorem TkS.abvAt {X : Ex} {w : World} {n : Nat} {ts : List Ty} {H : Nat} {a : Option Addr} {c : Nat} {qs : List TyP} {cnt : Nat} {f : List UInt8 → Option Int} {sv : Value} {ka kf : Nat} {av fv : Value} {W : World} (h : TkS X w n ts H a c qs cnt f sv ka kf av fv W) (k : Nat) (hk : k < ka) : ∃ g cs, av = .slice (some ⟨g, 0, none⟩) ka cs ∧ ka ≤ cs ∧ W.cell? ⟨g, k, none⟩ = some (.slice none 0 0) := by
  have hc := fun g hg => World.ownsRow.cells h.abv.1 (g := g) hg
  rcases h.abv.1.2 with ⟨rfl, hl⟩ | ⟨g, cap, cur, rfl, _, _, h1, _⟩
  · omega
  · refine ⟨g, cap, rfl, h1, ?_⟩
    have := hc g rfl k (.slice none 0 0) (by rw [List.getElem?_replicate, if_pos hk])
    rwa [Addr.add_lit, Nat.zero_add] at this
theorem heap_new1 (w : World) (o : Obj) (cs : Array Value) (t : TypeId) : ((w.alloc o).alloc (.cells cs t)).heap[w.heap.size + 1]? = some (.cells cs t (0, 0)) := by
  have := heap_alloc_new (w.alloc o) (.cells cs t)
  simpa using this
set_option maxRecDepth 100000 in
set_option maxHeartbeats 4000000 in
theorem allRules_flat (X : Ex) (w : World) (n : Nat) (ts : List Ty) (H : Nat) (a : Option Addr) (c : Nat) (qs : List TyP) (cnt : Nat) (f : List UInt8 → Option Int) (sv : Value) (k : Nat) (av fv : Value) (W : World) (h : TkS X w n ts H a c qs cnt f sv (k + 1) k av fv W) (hk : k < n) (hn : n ≤ 1024) (hkq : k < qs.length) :
    Calls Tryz.prog 125 #[.pointer (some ⟨H + 3, 0, none⟩), .int .i64 k] W fun e W' => e = .returned (.agg #[.int .i8 qs[k].1.eq, .int .i8 qs[k].1.ord, .int .i8 qs[k].1.prt]) ∧ Ext W W' := by
  have h0 := h.grow ((Ext.refl W).alloc (.cells #[.int .i8 0, .int .i8 0, .int .i8 0] 189))
  have hz : (W.alloc (.cells #[.int .i8 0, .int .i8 0, .int .i8 0] 189)).heap.size = W.heap.size + 1 := by simp
  have HB := heap_alloc_new W (.cells #[.int .i8 0, .int .i8 0, .int .i8 0] 189)
  obtain ⟨gt, hgt, _, _, _⟩ := row_some h.row (by omega)
  subst hgt
  have hcap := TySl_len h.row
  have nc := nine_cells h0.row k
  obtain ⟨ga, ca, rfl, hca, _⟩ := h.abvAt k (by omega)
  have hnm := h.own qs[k] (List.getElem_mem _)
  obtain ⟨⟨⟨oid, names, sup, syn, eq, ord, prt, single, ix⟩, nv⟩, hq⟩ : ∃ q, qs[k] = q := ⟨_, rfl⟩
  rw [hq] at hnm
  obtain ⟨na, nc', hnv⟩ := row_slice hnm
  have hnv' : nv = .slice na names.length nc' := hnv
  subst hnv'
  have c0 := nc 0 hkq _ (by rw [hq]; rfl)
  have c1 := nc 1 hkq _ (by rw [hq]; rfl)
  have c2 := nc 2 hkq _ (by rw [hq]; rfl)
  have c3 := nc 3 hkq _ (by rw [hq]; rfl)
  have c4 := nc 4 hkq _ (by rw [hq]; rfl)
  have c5 := nc 5 hkq _ (by rw [hq]; rfl)
  have c6 := nc 6 hkq _ (by rw [hq]; rfl)
  have c7 := nc 7 hkq _ (by rw [hq]; rfl)
  have c8 := nc 8 hkq _ (by rw [hq]; rfl)
  simp only [Nat.add_zero] at c0
  simp only [hq]
  have e0 := cell_of_row _ _ 0 _ _ _ h0.mb
  have s0 := cell_of_row _ _ 0 _ _ _ h0.sc
  simp only [List.getElem?_toArray, List.getElem?_cons_zero] at e0 s0
  generalize names.length = nn at *
  have hro := fun w1 => rulesOf_any w1 (.string oid) (.slice na nn nc') (.string sup) (.int .i8 syn) (.bool single) (.int .u8 ix) eq ord prt
  have hki : (k : Int) < (n : Int) := by omega
  have hki2 : (k : Int) < ((k + 1 : Nat) : Int) := by omega
  have hh : Hid _ := h0
  have xW : Hid (Ext W (W.alloc (.cells #[.int .i8 0, .int .i8 0, .int .i8 0] 189))) := (Ext.refl W).alloc _
  clear nc h h0 hq
  go_enter Tryz.func125, Tryz.ntmps125
  go_upto_region 1 with fail
  generalize W.alloc (.cells #[.int .i8 0, .int .i8 0, .int .i8 0] 189) = W1 at *
  go_upto_region 2 with (go_at_call 123; refine (hro _).mono ?_; rintro _ w2 ⟨rfl, x2⟩)
  have x3 := x2.alloc (.cells #[.int .i8 eq, .int .i8 ord, .int .i8 prt] 189)
  have hF := heap_alloc_new w2 (.cells #[.int .i8 eq, .int .i8 ord, .int .i8 prt] 189)
  have hzz : Hid (W.heap.size < w2.heap.size) := by have := x2.size; show _ < _; omega
  generalize w2.alloc (.cells #[.int .i8 eq, .int .i8 ord, .int .i8 prt] 189) = w3 at *
  generalize w2.heap.size = gf at *
  have h3 := hh.out.grow x3
  have HB3 := (x3.block _ (Array.getElem?_eq_some_iff.1 HB).1).trans HB
  have e3 := cell_of_row _ _ 0 _ _ _ h3.mb
  have s3 := cell_of_row _ _ 5 _ _ _ h3.sc
  have f0 := cell_of_row _ _ 0 _ _ _ hF
  have f1 := cell_of_row _ _ 1 _ _ _ hF
  have f2 := cell_of_row _ _ 2 _ _ _ hF
  have r0 := cell_of_row _ _ 0 _ _ _ HB3
  have r1 := cell_of_row _ _ 1 _ _ _ HB3
  have r2 := cell_of_row _ _ 2 _ _ _ HB3
  simp only [List.getElem?_toArray, List.getElem?_cons_zero, List.getElem?_cons_succ] at e3 s3 f0 f1 f2 r0 r1 r2
  have fr : ∀ j, w3.frozen? ⟨W.heap.size, j, none⟩ = false := fun j => by simp [World.frozen?, HB3]
  obtain ⟨ga', ca', e, _, ck⟩ := h3.abvAt k (by omega)
  simp only [Value.slice.injEq, Option.some.injEq, Addr.mk.injEq, true_and, and_true] at e
  obtain ⟨rfl, rfl⟩ := e
  have hB3h : Hid _ := HB3
  have x3h : Hid _ := x3
  clear h3 hF HB3 HB x2 x3 e0 s0 c0 c1 c2 c3 c4 c5 c6 c7 c8 hro hz
  go_wp2
  refine wp_loop_rounds 1 ?_
  rw [rounds_succ]
  go_wp2
  have H9 := heap_setCell_at _ W.heap.size 2 (.int .i8 prt) _ _ _ (heap_setCell_at _ W.heap.size 1 (.int .i8 ord) _ _ _ (heap_setCell_at _ W.heap.size 0 (.int .i8 eq) _ _ _ hB3h.out))
  have O9 : Only (fun b => b = W.heap.size) w3 (((w3.setCell ⟨W.heap.size, 0, none⟩ (.int .i8 eq)).setCell ⟨W.heap.size, 1, none⟩ (.int .i8 ord)).setCell ⟨W.heap.size, 2, none⟩ (.int .i8 prt)) := ((only_set _ _ _ _).then (only_set _ _ _ _)).then (only_set _ _ _ _)
  refine bodyPost_ret (results_agg rfl _ _ W.heap.size [.int .i8 eq, .int .i8 ord, .int .i8 prt] 3 rfl Tryz.isAgg189 Tryz.sizeOf189 rfl (three H9)) rfl ?_
  exact ⟨rfl, (xW.out.trans x3h.out).then O9 (fun g hg => by omega)⟩
end Go.Proofs.YtfiijlmpfpmgiaaGreatDoor
