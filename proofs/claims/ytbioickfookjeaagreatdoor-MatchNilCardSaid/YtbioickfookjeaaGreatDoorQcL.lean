/-
  match: typeAt, isTaken, Fits.
-/
import Derived.Test.YtbioickfookjeaaGreatDoorQbM
import Derived.Test.YtbioickfookjeaaGreatDoorQbL
import Derived.Test.YtbioickfookjeaaGreatDoorXpush
import Derived.Lib.LaidTab
import Derived.Test.YtbioickfookjeaaGreatDoorRows
import Derived.Test.YtbioickfookjeaaGreatDoorXsee
import Derived.ProofKit
import Derived.OpenShut
import Derived.ReadAgain
import Derived.SizedLaws
import Derived.Test.YtbioickfookjeaaGreatDoorCards
import Derived.Test.YtbioickfookjeaaGreatDoorTie
namespace Go.Proofs.YtbioickfookjeaaGreatDoor
open Go.RowKit

/-- a type that is in a schema's Full -/
def FullAt (w : World) (p : Nat) (k : Nat) (t : Ty) : Prop := ∃ g n c a0 c0, k < n ∧ n ≤ c ∧ w.cell? ⟨p, 4, none⟩ = some (.slice (some ⟨g, 0, none⟩) n c) ∧ t.names.length ≤ 1000000000 ∧ Sl encS w (.slice a0 t.names.length c0) t.names ∧ ∀ i u, (tyA t (.slice a0 t.names.length c0))[i]? = some u → w.cell? ⟨g, k * 9 + i, none⟩ = some u
theorem FullAt.ext {w w' : World} {p k : Nat} {t : Ty} (h : FullAt w p k t) (x : Ext w w') : FullAt w' p k t := by
  obtain ⟨g, n, c, a0, c0, h1, h2, h3, h4, h5, h6⟩ := h
  exact ⟨g, n, c, a0, c0, h1, h2, x.cell h3, h4, h5.ext x, fun i u hu => x.cell (h6 i u hu)⟩
set_option maxRecDepth 100000 in
theorem hasType_ok (w : World) (p k : Nat) (t : Ty) (h : FullAt w p k t) : Calls Tryz.prog 147 #[.pointer (some ⟨p, 0, none⟩), .int .i64 k] w fun e w' => e = .returned (.bool true) ∧ w' = w := by
  obtain ⟨g, n, c, a0, c0, h1, h2, h3, h4, h5, h6⟩ := h
  have h1i : (k : Int) < (n : Int) := by omega
  clear h5 h6
  go_enter Tryz.func147, Tryz.ntmps147
  go_wp2
  go_ret
  exact ⟨rfl, rfl⟩
set_option maxRecDepth 100000 in
theorem hasType_nil (w : World) (k : Int) : Calls Tryz.prog 147 #[.pointer none, .int .i64 k] w fun e w' => e = .returned (.bool false) ∧ w' = w := by
  go_enter Tryz.func147, Tryz.ntmps147
  go_wp2
  go_ret
  exact ⟨rfl, rfl⟩
def zT : Ty := ⟨⟨#[]⟩, [], ⟨#[]⟩, 0, 0, 0, 0, false, 0⟩
set_option maxRecDepth 100000 in
set_option maxHeartbeats 1000000 in
theorem Full_nil (w : World) (k : Int) : Calls Tryz.prog 87 #[.pointer none, .int .i64 k] w fun e w' => e = .returned (.agg (tyA zT (.slice none 0 0))) ∧ Ext w w' := by
  have hh := fun w => hasType_nil w k
  have x1 : Hid (Ext w (w.alloc (.cells (tyA zT (.slice none 0 0)) 84))) := (Ext.refl w).alloc _
  have HA := heap_alloc_new w (.cells (tyA zT (.slice none 0 0)) 84)
  simp only [tyA, zT] at x1 HA ⊢
  go_enter Tryz.func87, Tryz.ntmps87
  go_upto_region 1 with fail
  generalize w.alloc (.cells #[.string ⟨#[]⟩, .slice none 0 0, .string ⟨#[]⟩, .int .i8 0, .int .i8 0, .int .i8 0, .int .i8 0, .bool false, .int .u8 0] 84) = w1 at *
  generalize hg : w.heap.size = g at *
  have hgh : Hid (w.heap.size = g) := hg
  clear hg
  have q := fun j => cell_of_row _ _ j _ _ _ HA
  have q0 := q 0; have q1 := q 1; have q2 := q 2; have q3 := q 3; have q4 := q 4; have q5 := q 5; have q6 := q 6; have q7 := q 7; have q8 := q 8
  simp only [List.getElem?_toArray, List.getElem?_cons_zero, List.getElem?_cons_succ] at q0 q1 q2 q3 q4 q5 q6 q7 q8
  have fq : ∀ j, w1.frozen? ⟨g, j, none⟩ = false := fun j => by simp [World.frozen?, HA]
  have HAh : Hid (w1.heap[g]? = _) := HA
  clear HA q
  go_wp2_with (go_at_call 147; refine (hh _).mono ?_; rintro _ w2 ⟨rfl, rfl⟩)
  have H4 := set9_heap w2 g _ _ _ _ _ _ _ _ _ (.string ⟨#[]⟩) (.slice none 0 0) (.string ⟨#[]⟩) (.int .i8 0) (.int .i8 0) (.int .i8 0) (.int .i8 0) (.bool false) (.int .u8 0) _ _ HAh.out
  refine bodyPost_ret (results_agg rfl _ _ g [.string ⟨#[]⟩, .slice none 0 0, .string ⟨#[]⟩, .int .i8 0, .int .i8 0, .int .i8 0, .int .i8 0, .bool false, .int .u8 0] 9 rfl Tryz.isAgg84 Tryz.sizeOf84 rfl (nine_of H4)) rfl ?_
  exact ⟨rfl, x1.out.then (set9_only w2 g 0 _ _ _ _ _ _ _ _ _) (fun k hk => by rw [hgh.out, hk]; exact Nat.le_refl _)⟩
set_option maxRecDepth 100000 in
set_option maxHeartbeats 2000000 in
theorem Full_ok (w : World) (p k : Nat) (t : Ty) (h : FullAt w p k t) : Calls Tryz.prog 87 #[.pointer (some ⟨p, 0, none⟩), .int .i64 k] w fun e w' => ∃ a c, e = .returned (.agg (tyA t (.slice a t.names.length c))) ∧ Ext w w' := by
  have hh := fun w1 (x : Ext w w1) => hasType_ok w1 p k t (h.ext x)
  obtain ⟨g, n, c, a0, c0, h1, h2, h3, h4, h5, h6⟩ := h
  have htw := fun w1 (x : Ext w w1) => twinType_any w1 t (.slice a0 t.names.length c0) (h5.ext x) h4
  have hki : (k : Int) < (n : Int) := by omega
  obtain ⟨oid, names, sup, syn, eq, ord, prt, single, ix⟩ := t
  have x1 : Ext w (w.alloc (.cells (tyA zT (.slice none 0 0)) 84)) := (Ext.refl w).alloc _
  have HA := heap_alloc_new w (.cells (tyA zT (.slice none 0 0)) 84)
  have hh1 := hh _ x1
  have tw1 := htw _ x1
  have e4 := x1.cell h3
  have c0' := x1.cell (h6 0 _ rfl)
  have c1 := x1.cell (h6 1 _ rfl)
  have c2 := x1.cell (h6 2 _ rfl)
  have c3 := x1.cell (h6 3 _ rfl)
  have c4 := x1.cell (h6 4 _ rfl)
  have c5 := x1.cell (h6 5 _ rfl)
  have c6 := x1.cell (h6 6 _ rfl)
  have c7 := x1.cell (h6 7 _ rfl)
  have c8 := x1.cell (h6 8 _ rfl)
  have x1h : Hid (Ext w (w.alloc (.cells (tyA zT (.slice none 0 0)) 84))) := x1
  simp only [Nat.add_zero] at c0'
  clear h3 h5 h6 hh htw x1
  simp only [tyA, zT] at *
  go_enter Tryz.func87, Tryz.ntmps87
  go_upto_region 1 with fail
  generalize w.alloc (.cells #[.string ⟨#[]⟩, .slice none 0 0, .string ⟨#[]⟩, .int .i8 0, .int .i8 0, .int .i8 0, .int .i8 0, .bool false, .int .u8 0] 84) = w1 at *
  generalize hg : w.heap.size = ga at *
  have hgh : Hid (w.heap.size = ga) := hg
  have HAh : Hid (w1.heap[ga]? = _) := HA
  clear hg HA
  go_wp2_with (first | (go_at_call 147; refine hh1.mono ?_; rintro _ w2 ⟨rfl, rfl⟩) | (go_at_call 148; refine tw1.mono ?_; rintro _ w3 ⟨u, rfl, r3, x3⟩; obtain ⟨a3, cc3, hu⟩ := row_slice r3; subst hu; have HA3 := (x3.block _ (Array.getElem?_eq_some_iff.1 HAh.out).1).trans HAh.out; have q := fun j => cell_of_row _ _ j _ _ _ HA3; have q0 := q 0; have q1 := q 1; have q2 := q 2; have q3 := q 3; have q4 := q 4; have q5 := q 5; have q6 := q 6; have q7 := q 7; have q8 := q 8; simp only [List.getElem?_toArray, List.getElem?_cons_zero, List.getElem?_cons_succ] at q0 q1 q2 q3 q4 q5 q6 q7 q8; have fq : ∀ j, w3.frozen? ⟨ga, j, none⟩ = false := (fun j => by simp [World.frozen?, HA3]); clear q))
  have HA4 := (x3.block _ (Array.getElem?_eq_some_iff.1 HAh.out).1).trans HAh.out
  have H4 := set9_heap w3 ga _ _ _ _ _ _ _ _ _ (.string oid) (.slice a3 names.length cc3) (.string sup) (.int .i8 syn) (.int .i8 eq) (.int .i8 ord) (.int .i8 prt) (.bool single) (.int .u8 ix) _ _ HA4
  refine bodyPost_ret (results_agg rfl _ _ ga [.string oid, .slice a3 names.length cc3, .string sup, .int .i8 syn, .int .i8 eq, .int .i8 ord, .int .i8 prt, .bool single, .int .u8 ix] 9 rfl Tryz.isAgg84 Tryz.sizeOf84 rfl (nine_of H4)) rfl ?_
  exact ⟨_, _, rfl, (x1h.out.trans x3).then (set9_only w3 ga 0 _ _ _ _ _ _ _ _ _) (fun k hk => by rw [hgh.out, hk]; exact Nat.le_refl _)⟩
theorem results_agg_tmp {fn : Func} {p u : Tmp} {ty : TypeId} (h : fn.results = #[.cell p ty, .tmp u]) (tmps : Array Value) (w : World) (g : Nat) (cs : List Value) (n : Nat) (hp : tmps.getD p undef = .pointer (some ⟨g, 0, none⟩)) (hagg : ∀ w, (isAgg ty).run Tryz.prog w = .ok true w) (hsz : ∀ w, (sizeOf ty).run Tryz.prog w = .ok n w) (hn : n = cs.length)
    (hc : ∀ j v, cs[j]? = some v → w.cell? ((⟨g, 0, none⟩ : Addr).add j) = some v) : (results fn tmps).run Tryz.prog w = .ok (.tuple #[.agg cs.toArray, tmps.getD u undef]) w := by
  have hl := run_loadCells_list (P := Tryz.prog) w ⟨g, 0, none⟩ cs hc
  subst hn
  rw [results_cell_tmp h, hp]
  simp [asAddr, loadVar, Sem.run_bind, hagg, hsz, hl, Result.andThen]
theorem drew_block {w : World} {g : Nat} {x : Option Obj} (h : w.heap[g]? = x) : w.drew.heap[g]? = x := h
theorem endT {w W : World} {ga : Nat} {d0 d1 d2 d3 d4 d5 d6 d7 d8 c0 c1 c2 c3 c4 c5 c6 c7 c8 : Value} {t : TypeId} {fz : Nat × Nat} (h : W.heap[ga]? = some (.cells #[d0, d1, d2, d3, d4, d5, d6, d7, d8] t fz)) (x : Ext w W) (hg : w.heap.size = ga) :
    (set9 W ga 0 c0 c1 c2 c3 c4 c5 c6 c7 c8).drew.heap[ga]? = some (.cells #[c0, c1, c2, c3, c4, c5, c6, c7, c8] t fz) ∧ Ext w (set9 W ga 0 c0 c1 c2 c3 c4 c5 c6 c7 c8).drew :=
  ⟨drew_block (set9_heap W ga _ _ _ _ _ _ _ _ _ c0 c1 c2 c3 c4 c5 c6 c7 c8 t fz h), (x.then (set9_only W ga 0 c0 c1 c2 c3 c4 c5 c6 c7 c8) (fun k hk => by rw [hg, hk]; exact Nat.le_refl _)).drew⟩
set_option maxRecDepth 100000 in
set_option maxHeartbeats 4000000 in
theorem typeAt_of (w : World) (pv : Value) (k : Int) (oid : ByteArray) (sup : ByteArray) (syn eq ord prt : Int) (single : Bool) (ix : Int) (B : Bool) (hB : (!oid.toList.isEmpty) = B)
    (hf : ∀ w1, Ext w w1 → Calls Tryz.prog 87 #[pv, .int .i64 k] w1 fun e w' => ∃ a n c, e = .returned (.agg #[.string oid, .slice a n c, .string sup, .int .i8 syn, .int .i8 eq, .int .i8 ord, .int .i8 prt, .bool single, .int .u8 ix]) ∧ Ext w1 w') :
    Calls Tryz.prog 38 #[pv, .int .i64 k] w fun e w' => ∃ a n c, e = .returned (.tuple #[.agg #[.string oid, .slice a n c, .string sup, .int .i8 syn, .int .i8 eq, .int .i8 ord, .int .i8 prt, .bool single, .int .u8 ix], .bool B]) ∧ Ext w w' := by
  have x1 : Ext w (w.alloc (.cells (tyA zT (.slice none 0 0)) 84)) := (Ext.refl w).alloc _
  have HA := heap_alloc_new w (.cells (tyA zT (.slice none 0 0)) 84)
  have hf1 := hf _ x1
  have x1h : Hid (Ext w (w.alloc (.cells (tyA zT (.slice none 0 0)) 84))) := x1
  clear hf x1
  simp only [tyA, zT] at *
  go_enter Tryz.func38, Tryz.ntmps38
  go_upto_region 1 with fail
  generalize w.alloc (.cells #[.string ⟨#[]⟩, .slice none 0 0, .string ⟨#[]⟩, .int .i8 0, .int .i8 0, .int .i8 0, .int .i8 0, .bool false, .int .u8 0] 84) = w1 at *
  generalize hg : w.heap.size = ga at *
  have hgh : Hid (w.heap.size = ga) := hg
  have HAh : Hid (w1.heap[ga]? = _) := HA
  clear hg HA
  go_upto_region 2 with (go_at_call 87; refine hf1.mono ?_; rintro _ w3 ⟨a, n, c, rfl, x3⟩)
  have HB := heap_alloc_new w3 (.cells #[.string oid, .slice a n c, .string sup, .int .i8 syn, .int .i8 eq, .int .i8 ord, .int .i8 prt, .bool single, .int .u8 ix] 84)
  have x4 : Ext w1 (w3.alloc (.cells #[.string oid, .slice a n c, .string sup, .int .i8 syn, .int .i8 eq, .int .i8 ord, .int .i8 prt, .bool single, .int .u8 ix] 84)) := x3.alloc _
  have hgB : ga < w3.heap.size := by have := x3.size; have := (Array.getElem?_eq_some_iff.1 HAh.out).1; omega
  generalize w3.alloc (.cells #[.string oid, .slice a n c, .string sup, .int .i8 syn, .int .i8 eq, .int .i8 ord, .int .i8 prt, .bool single, .int .u8 ix] 84) = W at *
  generalize w3.heap.size = gb at *
  have HA4 := (x4.block _ (Array.getElem?_eq_some_iff.1 HAh.out).1).trans HAh.out
  have p := fun j => cell_of_row _ _ j _ _ _ HB
  have q := fun j => cell_of_row _ _ j _ _ _ HA4
  have p0 := p 0; have p1 := p 1; have p2 := p 2; have p3 := p 3; have p4 := p 4; have p5 := p 5; have p6 := p 6; have p7 := p 7; have p8 := p 8
  have q0 := q 0; have q1 := q 1; have q2 := q 2; have q3 := q 3; have q4 := q 4; have q5 := q 5; have q6 := q 6; have q7 := q 7; have q8 := q 8
  simp only [List.getElem?_toArray, List.getElem?_cons_zero, List.getElem?_cons_succ] at p0 p1 p2 p3 p4 p5 p6 p7 p8 q0 q1 q2 q3 q4 q5 q6 q7 q8
  have fq : ∀ j, W.frozen? ⟨ga, j, none⟩ = false := fun j => by simp [World.frozen?, HA4]
  have hne : ga ≠ gb := by omega
  have hne2 : gb ≠ ga := by omega
  have mixed : Tryz.prog.follows Departure.mixedOrders = true := mixedR
  have HA4h : Hid (W.heap[ga]? = _) := HA4
  have x4h : Hid (Ext w W) := x1h.out.trans x4
  clear p q HA4 HB hf1 x3 x4 hgB
  go_cut [5] from 10 to 13 (fun s5 wx => s5 = .bool B ∧ Hid (wx.heap[ga]? = some (.cells #[.string oid, .slice a n c, .string sup, .int .i8 syn, .int .i8 eq, .int .i8 ord, .int .i8 prt, .bool single, .int .u8 ix] 84 (0, 0)) ∧ Ext w wx))
  case first =>
    go_region_with_o fail
    all_goals dsimp only [Act.put, List.getElem_toArray, List.getElem_cons_succ, List.getElem_cons_zero]
    all_goals simp only [List.setIfInBounds_toArray, List.set_cons_succ, List.set_cons_zero]
    all_goals go_wp2
    all_goals go_meet
    all_goals exact ⟨rfl, endT HA4h.out x4h.out hgh.out⟩
  case rest =>
    obtain ⟨rfl, HC⟩ := hcut
    go_wp2
    refine bodyPost_ret (results_agg_tmp rfl _ _ ga [.string oid, .slice a n c, .string sup, .int .i8 syn, .int .i8 eq, .int .i8 ord, .int .i8 prt, .bool single, .int .u8 ix] 9 rfl Tryz.isAgg84 Tryz.sizeOf84 rfl (nine_of HC.out.1)) rfl ?_
    exact ⟨a, n, c, rfl, HC.out.2⟩
end Go.Proofs.YtbioickfookjeaaGreatDoor

/-
  match: pieces, as the law's wakes asks for them.
-/
namespace Go.Proofs.YtbioickfookjeaaGreatDoor
open Go.RowKit Go.Shelf

set_option maxRecDepth 100000 in
theorem slIndex_bar (w : World) :
    Calls Tryz.prog 268 #[.string ⟨#[98, 97, 114]⟩, .string ⟨#[97]⟩] w fun e w' => e = .returned (.int .i64 1) ∧ w' = w := by
  have hx2 : ∀ w, Calls Tryz.prog 309 #[.string ⟨#[98, 97, 114]⟩, .int .u8 97] w fun e w' => e = .returned (.int .i64 1) ∧ w' = w := fun w => Any.stringslite_IndexByte ({ Tryz.laysM146 with } : Lays.n217 Tryz.prog Tryz.laysM146_ren) ⟨#[98, 97, 114]⟩ 97 w
  go_enter Tryz.func268, Tryz.ntmps268
  go_wp2_with (go_at_call 309; refine (hx2 _).mono ?_; rintro e w2 ⟨rfl, rfl⟩)
  go_ret
  exact ⟨rfl, rfl⟩
set_option maxRecDepth 100000 in
theorem slCut_bar (w : World) :
    Calls Tryz.prog 232 #[.string ⟨#[98, 97, 114]⟩, .string ⟨#[97]⟩] w fun e w' => e = .returned (.tuple #[.string ⟨#[98]⟩, .string ⟨#[114]⟩, .bool true]) ∧ ∃ m, w' = w.drewN m := by
  have hx := slIndex_bar
  go_enter Tryz.func232, Tryz.ntmps232
  go_wp2_with (go_at_call 268; refine (hx _).mono ?_; rintro e w2 ⟨rfl, rfl⟩)
  go_quiet (fail)
  go_wp2
  go_ret3
  exact ⟨rfl, _, rfl⟩
set_option maxRecDepth 100000 in
theorem Cut_bar (w : World) :
    Calls Tryz.prog 198 #[.string ⟨#[98, 97, 114]⟩, .string ⟨#[97]⟩] w fun e w' => e = .returned (.tuple #[.string ⟨#[98]⟩, .string ⟨#[114]⟩, .bool true]) ∧ ∃ m, w' = w.drewN m := by
  have hx := slCut_bar
  go_enter Tryz.func198, Tryz.ntmps198
  go_wp2_with (go_at_call 232; refine (hx _).mono ?_; rintro e w2 ⟨rfl, m, rfl⟩)
  go_ret3
  exact ⟨rfl, _, rfl⟩
/-- "bar", "a", "a" in "barbara" -/
def pcA (g c : Nat) : Value := .agg #[.string ⟨#[98, 97, 114]⟩, .string ⟨#[97]⟩, .slice (some ⟨g, 0, none⟩) 1 c]
set_option maxRecDepth 100000 in
set_option maxHeartbeats 2000000 in
theorem standIn_bar (w : World) (g c : Nat) (h : w.cell? ⟨g, 0, none⟩ = some (.string ⟨#[97]⟩)) :
    Calls Tryz.prog 146 #[pcA g c, .string ⟨#[98, 97, 114, 98, 97, 114, 97]⟩] w fun e w' => e = .returned (.bool true) ∧ Ext w w' := by
  have h1 : ∀ w, Calls Tryz.prog 196 #[.string ⟨#[98, 97, 114, 98, 97, 114, 97]⟩, .string ⟨#[98, 97, 114]⟩] w fun e w' => e = .returned (.tuple #[.string ⟨#[98, 97, 114, 97]⟩, .bool true]) ∧ w' = w := fun w => CutP_any w [98, 97, 114, 98, 97, 114, 97] [98, 97, 114]
  have h2 : ∀ w, Calls Tryz.prog 197 #[.string ⟨#[98, 97, 114, 97]⟩, .string ⟨#[97]⟩] w fun e w' => e = .returned (.tuple #[.string ⟨#[98, 97, 114]⟩, .bool true]) ∧ w' = w := fun w => CutS_any w [98, 97, 114, 97] [97] (by decide)
  have h3 := Cut_bar
  unfold pcA
  have hB := heap_alloc_new w (.cells #[.string ⟨#[98, 97, 114]⟩, .string ⟨#[97]⟩, .slice (some ⟨g, 0, none⟩) 1 c] 140)
  have x1 : Ext w (w.alloc (.cells #[.string ⟨#[98, 97, 114]⟩, .string ⟨#[97]⟩, .slice (some ⟨g, 0, none⟩) 1 c] 140)) := (Ext.refl w).alloc _
  have hc := x1.cell h
  have x1h : Hid (Ext w (w.alloc (.cells #[.string ⟨#[98, 97, 114]⟩, .string ⟨#[97]⟩, .slice (some ⟨g, 0, none⟩) 1 c] 140))) := x1
  clear x1 h
  go_enter Tryz.func146, Tryz.ntmps146
  go_upto_region 1 with fail
  generalize w.alloc (.cells #[.string ⟨#[98, 97, 114]⟩, .string ⟨#[97]⟩, .slice (some ⟨g, 0, none⟩) 1 c] 140) = w1 at *
  generalize w.heap.size = ga at *
  have b0 := cell_of_row _ _ 0 _ _ _ hB
  have b1 := cell_of_row _ _ 1 _ _ _ hB
  have b2 := cell_of_row _ _ 2 _ _ _ hB
  simp only [List.getElem?_toArray, List.getElem?_cons_zero, List.getElem?_cons_succ] at b0 b1 b2
  clear hB
  go_wp2_with (first | (go_at_call 196; refine (h1 _).mono ?_; rintro e w2 ⟨rfl, rfl⟩) | (go_at_call 197; refine (h2 _).mono ?_; rintro e w2 ⟨rfl, rfl⟩))
  refine wp_loop_rounds 2 ?_
  rw [rounds_succ]
  go_wp2_with (go_at_call 198; refine (h3 _).mono ?_; rintro e w3 ⟨rfl, m, rfl⟩)
  rw [rounds_succ]
  go_wp2
  go_ret
  exact ⟨rfl, x1h.out.drewN m⟩
set_option maxRecDepth 100000 in
theorem question_any (w : World) (g c b : Nat) : Calls Tryz.prog 86 #[pcA g c, keyF b] w fun e w' => ∃ c1 c2, e = .returned (.func (.func 145) #[] #[.pointer (some ⟨c2, 0, none⟩), .pointer (some ⟨c1, 0, none⟩)]) ∧ w'.heap[c1]? = some (.cells #[.string ⟨#[98, 97, 114]⟩, .string ⟨#[97]⟩, .slice (some ⟨g, 0, none⟩) 1 c] 140) ∧ w'.cell? ⟨c2, 0, none⟩ = some (keyF b) ∧ Ext w w' := by
  unfold pcA keyF
  go_enter Tryz.func86, Tryz.ntmps86
  go_wp2
  go_ret
  refine ⟨_, _, rfl, (((Ext.refl _).alloc _).block _ (by simp)).trans (heap_alloc_new w _), ?_, ((Ext.refl w).alloc _).alloc _⟩
  rw [← World.size_alloc w (.cells #[.string ⟨#[98, 97, 114]⟩, .string ⟨#[97]⟩, .slice (some ⟨g, 0, none⟩) 1 c] 140)]
  exact cell_of_row _ _ 0 _ _ _ (heap_alloc_new _ _)
set_option maxRecDepth 100000 in
set_option maxHeartbeats 1000000 in
theorem question1_bar (w : World) (g c b c1 c2 : Nat) (hk : KeyOf w 0 (keySp true)) (hb : w.cell? ⟨b, 0, none⟩ = some (.int .i8 0)) (h1 : w.heap[c1]? = some (.cells #[.string ⟨#[98, 97, 114]⟩, .string ⟨#[97]⟩, .slice (some ⟨g, 0, none⟩) 1 c] 140)) (h2 : w.cell? ⟨c2, 0, none⟩ = some (keyF b)) (h3 : w.cell? ⟨g, 0, none⟩ = some (.string ⟨#[97]⟩)) :
    Calls Tryz.prog 145 #[.string ⟨#[66, 97, 114, 98, 97, 114, 97]⟩, .pointer (some ⟨c2, 0, none⟩), .pointer (some ⟨c1, 0, none⟩)] w fun e w' => e = .returned (.int .i8 1) ∧ Ext w w' := by
  have hq := keyerF_any w b 0 _ hk hb ⟨#[66, 97, 114, 98, 97, 114, 97]⟩ (by decide)
  rw [show keySp true (byt ⟨#[66, 97, 114, 98, 97, 114, 97]⟩) = some [98, 97, 114, 98, 97, 114, 97] by decide] at hq
  have hq2 : Calls Tryz.prog 138 #[.string ⟨#[66, 97, 114, 98, 97, 114, 97]⟩, .pointer (some ⟨b, 0, none⟩)] w fun e w' => e = .returned (.tuple #[.string ⟨#[98, 97, 114, 98, 97, 114, 97]⟩, .bool true]) ∧ Ext w w' := hq
  have hs := fun w1 (x : Ext w w1) => standIn_bar w1 g c (x.cell h3)
  unfold pcA at hs
  unfold keyF at h2
  have ht : ∀ w, Calls Tryz.prog 43 #[.bool true] w fun e w' => e = .returned (.int .i8 1) ∧ w' = w := fun w => truth_any w true
  have b0 := cell_of_row _ _ 0 _ _ _ h1
  have b1 := cell_of_row _ _ 1 _ _ _ h1
  have b2 := cell_of_row _ _ 2 _ _ _ h1
  simp only [List.getElem?_toArray, List.getElem?_cons_zero, List.getElem?_cons_succ] at b0 b1 b2
  clear hq hk h1
  go_enter Tryz.func145, Tryz.ntmps145
  go_wp2_with (first
    | (go_at_call 138; refine hq2.mono ?_; rintro _ w2 ⟨rfl, x2⟩; have d0 := x2.cell b0; have d1 := x2.cell b1; have d2 := x2.cell b2)
    | (go_at_call 146; refine (hs _ x2).mono ?_; rintro _ w3 ⟨rfl, x3⟩)
    | (go_at_call 43; refine (ht _).mono ?_; rintro _ w4 ⟨rfl, rfl⟩))
  go_ret
  exact ⟨rfl, x2.trans x3⟩
theorem set3_0 {w : World} {g : Nat} {d0 d1 d2 : Value} {t : TypeId} {fz : Nat × Nat} (h : w.heap[g]? = some (.cells #[d0, d1, d2] t fz)) (c : Value) : (w.setCell ⟨g, 0, none⟩ c).heap[g]? = some (.cells #[c, d1, d2] t fz) := heap_setCells_at g t fz [c] 0 w [d0, d1, d2] h (by simp)
theorem set3_1 {w : World} {g : Nat} {d0 d1 d2 : Value} {t : TypeId} {fz : Nat × Nat} (h : w.heap[g]? = some (.cells #[d0, d1, d2] t fz)) (c : Value) : (w.setCell ⟨g, 1, none⟩ c).heap[g]? = some (.cells #[d0, c, d2] t fz) := heap_setCells_at g t fz [c] 1 w [d0, d1, d2] h (by simp)
theorem set3_2 {w : World} {g : Nat} {d0 d1 d2 : Value} {t : TypeId} {fz : Nat × Nat} (h : w.heap[g]? = some (.cells #[d0, d1, d2] t fz)) (c : Value) : (w.setCell ⟨g, 2, none⟩ c).heap[g]? = some (.cells #[d0, d1, c] t fz) := heap_setCells_at g t fz [c] 2 w [d0, d1, d2] h (by simp)
def set3 (w : World) (g : Nat) (c0 c1 c2 : Value) : World := ((w.setCell ⟨g, 0, none⟩ c0).setCell ⟨g, 1, none⟩ c1).setCell ⟨g, 2, none⟩ c2
theorem set3_heap {w : World} {g : Nat} {d0 d1 d2 : Value} {t : TypeId} {fz : Nat × Nat} (h : w.heap[g]? = some (.cells #[d0, d1, d2] t fz)) (c0 c1 c2 : Value) : (set3 w g c0 c1 c2).heap[g]? = some (.cells #[c0, c1, c2] t fz) := set3_2 (set3_1 (set3_0 h c0) c1) c2
theorem set3_ext {w0 w : World} {g : Nat} (x : Ext w0 w) (hg : w0.heap.size ≤ g) (c0 c1 c2 : Value) : Ext w0 (set3 w g c0 c1 c2) := ((x.setNew hg _).setNew hg _).setNew hg _
theorem set3_other {w : World} {g k : Nat} (hk : k ≠ g) (c0 c1 c2 : Value) : (set3 w g c0 c1 c2).heap[k]? = w.heap[k]? := (Below.heap_setCell _ _ _ _ hk).trans ((Below.heap_setCell _ _ _ _ hk).trans (Below.heap_setCell _ _ _ _ hk))
theorem three_of {w : World} {g : Nat} {c0 c1 c2 : Value} {t : TypeId} {fz : Nat × Nat} (h : w.heap[g]? = some (.cells #[c0, c1, c2] t fz)) : ∀ j v, [c0, c1, c2][j]? = some v → w.cell? ((⟨g, 0, none⟩ : Addr).add j) = some v := by
  intro j v hv
  rw [Addr.add_lit, Nat.zero_add, cell_of_row _ _ j _ _ _ h]
  simpa using hv
set_option maxRecDepth 100000 in
set_option maxHeartbeats 4000000 in
theorem piecesOf_bar (w : World) (ht : HasTab w) (gm cm : Nat) (hm : w.cell? ⟨gm, 0, none⟩ = some (.string ⟨#[97]⟩)) :
    Calls Tryz.prog 84 #[.int .i8 0, .string ⟨#[98, 97, 114]⟩, .slice (some ⟨gm, 0, none⟩) 1 cm, .string ⟨#[65]⟩] w fun e w' => ∃ g c, e = .returned (.tuple #[pcA g c, .bool true]) ∧ w'.cell? ⟨g, 0, none⟩ = some (.string ⟨#[97]⟩) ∧ Ext w w' := by
  have q0 := fun w1 (x : Ext w w1) => Piece0_any w1 (ht.ext x) 0 (by omega) ⟨#[98, 97, 114]⟩ (by decide)
  have q1 := fun w1 (x : Ext w w1) => Piece0_any w1 (ht.ext x) 1 (by omega) ⟨#[97]⟩ (by decide)
  have q2 := fun w1 (x : Ext w w1) => Piece0_any w1 (ht.ext x) 2 (by omega) ⟨#[65]⟩ (by decide)
  rw [show pieceSp true 0 (byt ⟨#[98, 97, 114]⟩) = some [98, 97, 114] by decide] at q0
  rw [show pieceSp true 1 (byt ⟨#[97]⟩) = some [97] by decide] at q1
  rw [show pieceSp true 2 (byt ⟨#[65]⟩) = some [97] by decide] at q2
  have p0 : ∀ w1, Ext w w1 → Calls Tryz.prog 144 #[.int .i8 0, .int .i8 0, .string ⟨#[98, 97, 114]⟩] w1 fun e w' => e = .returned (.tuple #[.string ⟨#[98, 97, 114]⟩, .bool true]) ∧ Fr w1.heap.size w1 w' := q0
  have p1 : ∀ w1, Ext w w1 → Calls Tryz.prog 144 #[.int .i8 0, .int .i8 1, .string ⟨#[97]⟩] w1 fun e w' => e = .returned (.tuple #[.string ⟨#[97]⟩, .bool true]) ∧ Fr w1.heap.size w1 w' := q1
  have p2 : ∀ w1, Ext w w1 → Calls Tryz.prog 144 #[.int .i8 0, .int .i8 2, .string ⟨#[65]⟩] w1 fun e w' => e = .returned (.tuple #[.string ⟨#[97]⟩, .bool true]) ∧ Fr w1.heap.size w1 w' := q2
  clear q0 q1 q2 ht
  unfold pcA
  have HA := heap_alloc_new w (.cells #[.string ⟨#[]⟩, .string ⟨#[]⟩, .slice none 0 0] 140)
  have x1 : Ext w (w.alloc (.cells #[.string ⟨#[]⟩, .string ⟨#[]⟩, .slice none 0 0] 140)) := (Ext.refl w).alloc _
  go_enter Tryz.func84, Tryz.ntmps84
  go_upto_region 1 with fail
  generalize w.alloc (.cells #[.string ⟨#[]⟩, .string ⟨#[]⟩, .slice none 0 0] 140) = w1 at *
  have hgA : Hid (w.heap.size ≤ w.heap.size) := Nat.le_refl _
  have HB := heap_alloc_new w1 (.cells #[.string ⟨#[]⟩, .string ⟨#[]⟩, .slice none 0 0] 140)
  have hgB : w.heap.size < w1.heap.size := (Array.getElem?_eq_some_iff.1 HA).1
  have x2 : Ext w1 (w1.alloc (.cells #[.string ⟨#[]⟩, .string ⟨#[]⟩, .slice none 0 0] 140)) := (Ext.refl w1).alloc _
  go_upto_region 3 with fail
  generalize w1.alloc (.cells #[.string ⟨#[]⟩, .string ⟨#[]⟩, .slice none 0 0] 140) = w2 at *
  have HA2 := (x2.block _ (Array.getElem?_eq_some_iff.1 HA).1).trans HA
  have x2' := x1.trans x2
  generalize w1.heap.size = gb at *
  have hgBh : Hid (w.heap.size < gb) := hgB
  have HAh : Hid (w2.heap[w.heap.size]? = some (.cells #[.string ⟨#[]⟩, .string ⟨#[]⟩, .slice none 0 0] 140 (0, 0))) := HA2
  have HBh : Hid (w2.heap[gb]? = some (.cells #[.string ⟨#[]⟩, .string ⟨#[]⟩, .slice none 0 0] 140 (0, 0))) := HB
  have x2h : Hid (Ext w w2) := x2'
  have c0 := p0 w2 x2'
  clear HA HB HA2 x1 x2 x2' hgB hgA p0
  go_upto_region 4 with (go_at_call 144; refine c0.mono ?_; rintro _ w3 ⟨rfl, f3⟩; have HB3 := (f3.ext.block _ (Array.getElem?_eq_some_iff.1 HBh.out).1).trans HBh.out; have k0 : w3.cell? ⟨gb, 0, none⟩ = some (.string ⟨#[]⟩) := cell_of_row _ _ 0 _ _ _ HB3; have kf := frozen_of_row _ _ 0 _ _ HB3)
  have HB4 := set3_0 HB3 (.string ⟨#[98, 97, 114]⟩)
  have HA4 := (Below.heap_setCell w3 ⟨gb, 0, none⟩ (.string ⟨#[98, 97, 114]⟩) _ (by have := hgBh.out; show w.heap.size ≠ gb; omega)).trans ((f3.ext.block _ (Array.getElem?_eq_some_iff.1 HAh.out).1).trans HAh.out)
  have x4 : Ext w (w3.setCell ⟨gb, 0, none⟩ (.string ⟨#[98, 97, 114]⟩)) := (x2h.out.trans f3.ext).setNew (Nat.le_of_lt hgBh.out) _
  generalize w3.setCell ⟨gb, 0, none⟩ (.string ⟨#[98, 97, 114]⟩) = w4 at *
  have c1 := p2 w4 x4
  have HA4h : Hid (w4.heap[w.heap.size]? = some (.cells #[.string ⟨#[]⟩, .string ⟨#[]⟩, .slice none 0 0] 140 (0, 0))) := HA4
  have HB4h : Hid (w4.heap[gb]? = _) := HB4
  have x4h : Hid (Ext w w4) := x4
  clear HA4 HB4 x4 HB3 k0 kf f3 c0 x2h HAh HBh p2
  go_upto_region 5 with (go_at_call 144; refine c1.mono ?_; rintro _ w5 ⟨rfl, f5⟩; have HB5 := (f5.ext.block _ (Array.getElem?_eq_some_iff.1 HB4h.out).1).trans HB4h.out; have k0 : w5.cell? ⟨gb, 1, none⟩ = some (.string ⟨#[]⟩) := cell_of_row _ _ 1 _ _ _ HB5; have kf := frozen_of_row _ _ 1 _ _ HB5)
  have HB6 := set3_1 HB5 (.string ⟨#[97]⟩)
  have HA6 := (Below.heap_setCell w5 ⟨gb, 1, none⟩ (.string ⟨#[97]⟩) _ (by have := hgBh.out; show w.heap.size ≠ gb; omega)).trans ((f5.ext.block _ (Array.getElem?_eq_some_iff.1 HA4h.out).1).trans HA4h.out)
  have x6 : Ext w (w5.setCell ⟨gb, 1, none⟩ (.string ⟨#[97]⟩)) := (x4h.out.trans f5.ext).setNew (Nat.le_of_lt hgBh.out) _
  generalize w5.setCell ⟨gb, 1, none⟩ (.string ⟨#[97]⟩) = w6 at *
  have c2 := p1 w6 x6
  have m6 := x6.cell hm
  have HA6h : Hid (w6.heap[w.heap.size]? = some (.cells #[.string ⟨#[]⟩, .string ⟨#[]⟩, .slice none 0 0] 140 (0, 0))) := HA6
  have HB6h : Hid (w6.heap[gb]? = _) := HB6
  have x6h : Hid (Ext w w6) := x6
  clear HA6 HB6 x6 HB5 k0 kf f5 c1 x4h HA4h HB4h p1 hm
  go_wp2
  refine wp_loop_rounds 2 ?_
  rw [rounds_succ]
  go_wp2_with (first
    | (go_at_call 144; refine c2.mono ?_; rintro _ w7 ⟨rfl, f7⟩; have HB7 := (f7.ext.block _ (Array.getElem?_eq_some_iff.1 HB6h.out).1).trans HB6h.out; have k2 : w7.cell? ⟨gb, 2, none⟩ = some (.slice none 0 0) := cell_of_row _ _ 2 _ _ _ HB7)
    | (at_builtin; refine Hid.out ?_))
  obtain ⟨g8, cap8, w8, hr8, r8, o8⟩ := run_append_rowS (w7.alloc (.cells #[.string ⟨#[97]⟩] 9)) (fun _ => False) 47 9 47 47 _ 1 16 infoStr Tryz.underlying47 rfl _ 0 [] (row_nil _ _ _ _) _ 1 (by decide) _
    (srcB Tryz.underlying47 oneS (w7.alloc (.cells #[.string ⟨#[97]⟩] 9)) w7.heap.size #[.string ⟨#[97]⟩] [⟨#[97]⟩] 1 1 (heap_alloc_new w7 _) rfl rfl) (by decide) (by decide)
  have x8 : Ext w7 w8 := ((Ext.refl w7).alloc _).then o8 (fun b hb => hb.elim)
  have HB8 := (x8.block _ (Array.getElem?_eq_some_iff.1 HB7).1).trans HB7
  have HA8 := ((f7.ext.trans x8).block _ (Array.getElem?_eq_some_iff.1 HA6h.out).1).trans HA6h.out
  have g8c : w8.cell? ⟨g8, 0, none⟩ = some (.string ⟨#[97]⟩) := by
    have := World.ownsRow.cells r8.1 (g := g8) rfl 0 (.string ⟨#[97]⟩) rfl
    rwa [Addr.add_lit, Nat.zero_add] at this
  have hg8 : w7.heap.size < g8 := by
    have h := r8.2 g8 (by simp [Value.ownBlock])
    rcases h with h | h
    · exact h.elim
    · simp only [World.size_alloc] at h; omega
  have hb7 : gb < w7.heap.size := (Array.getElem?_eq_some_iff.1 HB7).1
  have e0 := cell_of_row _ _ 0 _ _ _ HB8
  have e1 := cell_of_row _ _ 1 _ _ _ HB8
  have e2 := cell_of_row _ _ 2 _ _ _ HB8
  have a0 := cell_of_row _ _ 0 _ _ _ HA8
  have a1 := cell_of_row _ _ 1 _ _ _ HA8
  have a2 := cell_of_row _ _ 2 _ _ _ HA8
  simp only [List.getElem?_toArray, List.getElem?_cons_zero, List.getElem?_cons_succ] at e0 e1 e2 a0 a1 a2
  have fB : ∀ j, w8.frozen? ⟨gb, j, none⟩ = false := fun j => by simp [World.frozen?, HB8]
  have fA : ∀ j, w8.frozen? ⟨w.heap.size, j, none⟩ = false := fun j => by simp [World.frozen?, HA8]
  have n1 : w.heap.size ≠ gb := by have := hgBh.out; omega
  have n2 : gb ≠ w.heap.size := by have := hgBh.out; omega
  have hfin : Hid (w8.cell? ⟨g8, 0, none⟩ = some (.string ⟨#[97]⟩) ∧ gb < g8 ∧ Ext w w8 ∧ w8.heap[w.heap.size]? = some (.cells #[.string ⟨#[]⟩, .string ⟨#[]⟩, .slice none 0 0] 140 (0, 0))) := ⟨g8c, by omega, (x6h.out.trans f7.ext).trans x8, HA8⟩
  have hr8h : Hid _ := hr8
  clear r8 o8 HB8 HA8 g8c hg8 hb7 HB7 k2 hr8 x8
  refine Lib.wpList_append_run _ rfl _ _ _ _ rfl _ _ rfl rfl _ _ hr8h.out ?_
  go_wp2
  rw [rounds_succ]
  go_wp2
  obtain ⟨f1, f2, f3, f4⟩ := hfin.out
  have H4 := set3_heap ((Below.heap_setCell w8 ⟨gb, 2, none⟩ (.slice (some ⟨g8, 0, none⟩) 1 cap8) _ (show w.heap.size ≠ gb from n1)).trans f4) (.string ⟨#[98, 97, 114]⟩) (.string ⟨#[97]⟩) (.slice (some ⟨g8, 0, none⟩) 1 cap8)
  refine bodyPost_ret (results_agg_tmp rfl _ _ w.heap.size [.string ⟨#[98, 97, 114]⟩, .string ⟨#[97]⟩, .slice (some ⟨g8, 0, none⟩) 1 cap8] 3 rfl Tryz.isAgg140 Tryz.sizeOf140 rfl (three_of H4)) rfl ?_
  have hlt := hgBh.out
  have O1 : Only (fun k => k = gb ∨ k = w.heap.size) w8 (set3 (w8.setCell ⟨gb, 2, none⟩ (.slice (some ⟨g8, 0, none⟩) 1 cap8)) w.heap.size (.string ⟨#[98, 97, 114]⟩) (.string ⟨#[97]⟩) (.slice (some ⟨g8, 0, none⟩) 1 cap8)) :=
    ((((Only.refl _ w8).setCell (p := ⟨gb, 2, none⟩) (.inl (.inl rfl)) _).setCell (p := ⟨w.heap.size, 0, none⟩) (.inl (.inr rfl)) _).setCell (p := ⟨w.heap.size, 1, none⟩) (.inl (.inr rfl)) _).setCell (p := ⟨w.heap.size, 2, none⟩) (.inl (.inr rfl)) _
  exact ⟨g8, cap8, rfl, O1.cell f1 (by show ¬ (g8 = gb ∨ g8 = w.heap.size); omega), f3.then O1 (fun k hk => by omega)⟩
set_option maxRecDepth 100000 in
set_option maxHeartbeats 1000000 in
theorem rule3_bar (w : World) (ht : HasTab w) (b g6 g8 gm cm : Nat) (h6 : w.cell? ⟨g6, 0, none⟩ = some (.int .i8 0)) (h8 : w.cell? ⟨g8, 0, none⟩ = some (keyF b)) (hm : w.cell? ⟨gm, 0, none⟩ = some (.string ⟨#[97]⟩)) :
    Calls Tryz.prog 83 #[.string ⟨#[98, 97, 114]⟩, .slice (some ⟨gm, 0, none⟩) 1 cm, .string ⟨#[65]⟩, .pointer (some ⟨g6, 0, none⟩), .pointer (some ⟨g8, 0, none⟩)] w fun e w' => ∃ g c c1 c2, e = .returned (.func (.func 145) #[] #[.pointer (some ⟨c2, 0, none⟩), .pointer (some ⟨c1, 0, none⟩)]) ∧ w'.cell? ⟨g, 0, none⟩ = some (.string ⟨#[97]⟩) ∧ w'.heap[c1]? = some (.cells #[.string ⟨#[98, 97, 114]⟩, .string ⟨#[97]⟩, .slice (some ⟨g, 0, none⟩) 1 c] 140) ∧ w'.cell? ⟨c2, 0, none⟩ = some (keyF b) ∧ Ext w w' := by
  have hp := piecesOf_bar w ht gm cm hm
  have hq := fun w1 g c => question_any w1 g c b
  unfold pcA at *
  unfold keyF at *
  clear ht hm
  go_enter Tryz.func83, Tryz.ntmps83
  go_wp2_with (first | (go_at_call 84; refine hp.mono ?_; rintro _ w2 ⟨g, c, rfl, e2, x2⟩; have h8' := (x2.alloc (.cells #[.string ⟨#[98, 97, 114]⟩, .string ⟨#[97]⟩, .slice (some ⟨g, 0, none⟩) 1 c] 140)).cell h8) | (go_at_call 86; refine (hq _ g c).mono ?_; rintro _ w3 ⟨c1, c2, rfl, d1, d2, x3⟩))
  go_ret
  exact ⟨g, c, c1, c2, rfl, x3.cell (((Ext.refl w2).alloc _).cell e2), d1, d2, (x2.alloc _).trans x3⟩
end Go.Proofs.YtbioickfookjeaaGreatDoor

/-
  match: typeAt, isTaken, Fits, soundsLike.
-/
namespace Go.Proofs.YtbioickfookjeaaGreatDoor
open Go.RowKit
theorem typeAt_ok (w : World) (p k : Nat) (t : Ty) (h : FullAt w p k t) (ho : (!t.oid.toList.isEmpty) = true) :
    Calls Tryz.prog 38 #[.pointer (some ⟨p, 0, none⟩), .int .i64 k] w fun e w' => ∃ a n c, e = .returned (.tuple #[.agg #[.string t.oid, .slice a n c, .string t.sup, .int .i8 t.syn, .int .i8 t.eq, .int .i8 t.ord, .int .i8 t.prt, .bool t.single, .int .u8 t.ix], .bool true]) ∧ Ext w w' :=
  typeAt_of w _ _ _ _ _ _ _ _ _ _ _ ho (fun w1 x => (Full_ok w1 p k t (h.ext x)).mono (by rintro _ w2 ⟨a, c, rfl, x2⟩; exact ⟨a, _, c, rfl, x2⟩))
theorem typeAt_nil (w : World) (k : Int) :
    Calls Tryz.prog 38 #[.pointer none, .int .i64 k] w fun e w' => ∃ a n c, e = .returned (.tuple #[.agg #[.string ⟨#[]⟩, .slice a n c, .string ⟨#[]⟩, .int .i8 0, .int .i8 0, .int .i8 0, .int .i8 0, .bool false, .int .u8 0], .bool false]) ∧ Ext w w' :=
  typeAt_of w _ _ _ _ _ _ _ _ _ _ _ (by rw [toList_byt]; rfl) (fun w1 _ => (Full_nil w1 k).mono (by rintro _ w2 ⟨rfl, x2⟩; exact ⟨none, 0, 0, rfl, x2⟩))
/-- the forms of syntaxes -/
def HasForms (w : World) : Prop := w.cell? ⟨1, 0, none⟩ = some (.int .i8 1)
set_option maxRecDepth 100000 in
theorem isTaken_text (w : World) (pv : Value) (hf : HasForms w) (ht : HasTab w) (s : ByteArray) (hs : s.size ≤ 65536) :
    Calls Tryz.prog 39 #[pv, .int .i8 0, .string s] w fun e w' => e = .returned (.bool (keySp false (byt s)).isSome) ∧ Ext w w' := by
  have hk := KeyOf.exact ht w s (Ext.refl w) hs
  unfold HasForms at hf
  generalize keySp false (byt s) = o at *
  simp only [ans] at hk
  go_enter Tryz.func39, Tryz.ntmps39
  go_wp2_with (go_at_call 88; refine hk.mono ?_; rintro _ w2 ⟨rfl, x2⟩)
  go_ret
  exact ⟨rfl, x2⟩
set_option maxRecDepth 100000 in
theorem Fits_text (w : World) (p k : Nat) (t : Ty) (h : FullAt w p k t) (ho : (!t.oid.toList.isEmpty) = true) (h0 : t.syn = 0) (hf : HasForms w) (ht : HasTab w) (s : ByteArray) (hs : s.size ≤ 65536) :
    Calls Tryz.prog 13 #[.pointer (some ⟨p, 0, none⟩), .int .i64 k, .string s] w fun e w' => e = .returned (.bool (keySp false (byt s)).isSome) ∧ Ext w w' := by
  have hty := typeAt_ok w p k t h ho
  rw [h0] at hty
  have hit := fun w1 (x : Ext w w1) => isTaken_text w1 (.pointer (some ⟨p, 0, none⟩)) (x.cell hf) (ht.ext x) s hs
  generalize (keySp false (byt s)).isSome = o at *
  clear h ht hf
  go_enter Tryz.func13, Tryz.ntmps13
  go_wp2_with (first | (go_at_call 38; refine hty.mono ?_; rintro _ w2 ⟨a, n, c, rfl, x2⟩) | (go_at_call 39; refine (hit _ (x2.alloc _)).mono ?_; rintro _ w3 ⟨rfl, x3⟩))
  go_ret
  exact ⟨rfl, (x2.alloc _).trans x3⟩
set_option maxRecDepth 100000 in
theorem Fits_nil (w : World) (k : Int) (s : ByteArray) : Calls Tryz.prog 13 #[.pointer none, .int .i64 k, .string s] w fun e w' => e = .returned (.bool false) ∧ Ext w w' := by
  have hty := typeAt_nil w k
  go_enter Tryz.func13, Tryz.ntmps13
  go_wp2_with (go_at_call 38; refine hty.mono ?_; rintro _ w2 ⟨a, n, c, rfl, x2⟩)
  go_ret
  exact ⟨rfl, x2.alloc _⟩
set_option maxRecDepth 100000 in
theorem soundsLike_any (w : World) (a b : ByteArray) (ha : a.size ≤ 65536) (hb : b.size ≤ 65536) (s : List UInt8) (h1 : soundL (byt b) = s) (h2 : soundL (byt a) = s) (hs : ([] == s) = false) :
    Calls Tryz.prog 44 #[.string a, .string b] w fun e w' => e = .returned (.bool true) ∧ Ext w w' := by
  have p1 := fun w => Sound_any w b (by omega)
  have p2 := fun w => Sound_any w a (by omega)
  rw [h1] at p1
  rw [h2] at p2
  have l1 := toList_byt (str s)
  rw [byt_str] at l1
  cases s with
  | nil => cases hs
  | cons x xs =>
    clear h1 h2 hs
    have mk : True := trivial
    go_enter Tryz.func44, Tryz.ntmps44
    go_wp2_with (first | (go_at_call 89; clear mk; refine (p1 _).mono ?_; rintro _ w2 ⟨rfl, f2⟩) | (go_at_call 89; refine (p2 _).mono ?_; rintro _ w3 ⟨rfl, f3⟩))
    go_ret
    exact ⟨rfl, (f2.then f3).ext⟩
end Go.Proofs.YtbioickfookjeaaGreatDoor

/-
  match: Same, Part, Like, as the law's wakes asks for them; of no schema.
-/
namespace Go.Proofs.YtbioickfookjeaaGreatDoor
open Go.RowKit

set_option maxRecDepth 100000 in
theorem Same_nil (w : World) (k : Int) (s t : ByteArray) : Calls Tryz.prog 15 #[.pointer none, .int .i64 k, .string s, .string t] w fun e w' => e = .returned (.bool false) ∧ Ext w w' := by
  have hty := typeAt_nil w k
  go_enter Tryz.func15, Tryz.ntmps15
  go_wp2_with (go_at_call 38; refine hty.mono ?_; rintro _ w2 ⟨a, n, c, rfl, x2⟩)
  go_ret
  exact ⟨rfl, x2.alloc _⟩
set_option maxRecDepth 100000 in
theorem Like_nil (w : World) (k : Int) (s t : ByteArray) : Calls Tryz.prog 19 #[.pointer none, .int .i64 k, .string s, .string t] w fun e w' => e = .returned (.int .i8 2) ∧ Ext w w' := by
  have hty := typeAt_nil w k
  go_enter Tryz.func19, Tryz.ntmps19
  go_wp2_with (go_at_call 38; refine hty.mono ?_; rintro _ w2 ⟨a, n, c, rfl, x2⟩)
  go_ret
  exact ⟨rfl, x2.alloc _⟩
set_option maxRecDepth 100000 in
theorem Same_yes (w : World) (p k : Nat) (t : Ty) (h : FullAt w p k t) (ho : (!t.oid.toList.isEmpty) = true) (s u : ByteArray) (hs : (s.toList == u.toList) = false)
    (heq : ∀ w1, Ext w w1 → Calls Tryz.prog 17 #[.pointer (some ⟨p, 0, none⟩), .int .i8 t.eq, .string s, .string u] w1 fun e w' => e = .returned (.int .i8 1) ∧ Ext w1 w') :
    Calls Tryz.prog 15 #[.pointer (some ⟨p, 0, none⟩), .int .i64 k, .string s, .string u] w fun e w' => e = .returned (.bool true) ∧ Ext w w' := by
  have hty := typeAt_ok w p k t h ho
  obtain ⟨oid, names, sup, syn, eq, ord, prt, single, ix⟩ := t
  clear h ho
  go_enter Tryz.func15, Tryz.ntmps15
  go_wp2_with (first | (go_at_call 38; refine hty.mono ?_; rintro _ w2 ⟨a, n, c, rfl, x2⟩) | (go_at_call 17; refine (heq _ (x2.alloc _)).mono ?_; rintro _ w3 ⟨rfl, x3⟩))
  go_ret
  exact ⟨rfl, (x2.alloc _).trans x3⟩
set_option maxRecDepth 100000 in
theorem Like_yes (w : World) (p k : Nat) (t : Ty) (h : FullAt w p k t) (ho : (!t.oid.toList.isEmpty) = true) (h0 : t.syn = 0) (s u : ByteArray)
    (hta : ∀ w1, Ext w w1 → Calls Tryz.prog 39 #[.pointer (some ⟨p, 0, none⟩), .int .i8 0, .string u] w1 fun e w' => e = .returned (.bool true) ∧ Ext w1 w')
    (heq : ∀ w1, Ext w w1 → Calls Tryz.prog 17 #[.pointer (some ⟨p, 0, none⟩), .int .i8 1, .string s, .string u] w1 fun e w' => e = .returned (.int .i8 0) ∧ Ext w1 w')
    (hso : ∀ w1, Calls Tryz.prog 44 #[.string s, .string u] w1 fun e w' => e = .returned (.bool true) ∧ Ext w1 w') :
    Calls Tryz.prog 19 #[.pointer (some ⟨p, 0, none⟩), .int .i64 k, .string s, .string u] w fun e w' => e = .returned (.int .i8 1) ∧ Ext w w' := by
  have hty := typeAt_ok w p k t h ho
  rw [h0] at hty
  have ht : ∀ w, Calls Tryz.prog 43 #[.bool true] w fun e w' => e = .returned (.int .i8 1) ∧ w' = w := fun w => truth_any w true
  obtain ⟨oid, names, sup, syn, eq, ord, prt, single, ix⟩ := t
  clear h ho h0
  go_enter Tryz.func19, Tryz.ntmps19
  go_wp2_with (first
    | (go_at_call 38; refine hty.mono ?_; rintro _ w2 ⟨a, n, c, rfl, x2⟩)
    | (go_at_call 39; refine (hta _ (x2.alloc _)).mono ?_; rintro _ w3 ⟨rfl, x3⟩; have k3 : w3.cell? ⟨w2.heap.size, 3, none⟩ = some (.int .i8 0) := x3.cell (cell_of_row _ _ 3 _ _ _ (heap_alloc_new w2 (.cells #[.string oid, .slice a n c, .string sup, .int .i8 0, .int .i8 eq, .int .i8 ord, .int .i8 prt, .bool single, .int .u8 ix] 84))))
    | (go_at_call 17; refine (heq _ ((x2.alloc _).trans x3)).mono ?_; rintro _ w4 ⟨rfl, x4⟩)
    | (go_at_call 44; refine (hso _).mono ?_; rintro _ w5 ⟨rfl, x5⟩)
    | (go_at_call 43; refine (ht _).mono ?_; rintro _ w6 ⟨rfl, rfl⟩))
  go_ret
  exact ⟨rfl, (((x2.alloc _).trans x3).trans x4).trans x5⟩
set_option maxRecDepth 100000 in
theorem Part_bar (w : World) (a : Addr) (ht : HasRules w) (hd : HasDoes w) (htab : HasTab w) (gm cm : Nat) (hm : w.cell? ⟨gm, 0, none⟩ = some (.string ⟨#[97]⟩)) :
    Calls Tryz.prog 27 #[.pointer (some a), .int .i8 3, .string ⟨#[66, 97, 114, 98, 97, 114, 97]⟩, .string ⟨#[98, 97, 114]⟩, .slice (some ⟨gm, 0, none⟩) 1 cm, .string ⟨#[65]⟩] w fun e w' => e = .returned (.int .i8 1) ∧ Ext w w' := by
  have h1 := ruleOf_part w a ht hd 3 (by decide) 0 (by decide) (by decide)
  have h1' : Calls Tryz.prog 37 #[.pointer (some a), .int .i8 3] w _ := h1
  have hq := fun w1 b g6 g8 (x : Ext w w1) h6 h8 => rule3_bar w1 (htab.ext x) b g6 g8 gm cm h6 h8 (x.cell hm)
  have hc := fun w1 g c b c1 c2 (x : Ext w w1) hb h1 h2 h3 => question1_bar w1 g c b c1 c2 (KeyOf.fold (htab.ext x)) hb h1 h2 h3
  unfold no1 no2 at *
  unfold keyF at *
  clear ht hd htab hm h1
  have hfd := fld3
  go_enter Tryz.func27, Tryz.ntmps27
  go_wp2_with (first | (go_at_call 37; refine h1'.mono ?_; rintro _ w2 ⟨b, g8, g6, rfl, e8, hb, e6, x2⟩) | (go_at_call 83; refine (hq _ _ _ _ x2 e6 e8).mono ?_; rintro _ w3 ⟨g, c, c1, c2, rfl, d0, d1, d2, x3⟩) | (go_at_call 145; refine (hc _ _ _ _ _ _ (x2.trans x3) (x3.cell hb) d1 d2 d0).mono ?_; rintro _ w4 ⟨rfl, x4⟩))
  go_ret
  exact ⟨rfl, (x2.trans x3).trans x4⟩
end Go.Proofs.YtbioickfookjeaaGreatDoor

/-
  The law's wakes.
-/
namespace Go.Proofs.YtbioickfookjeaaGreatDoor
open Go.RowKit

theorem ScS.full {B n p : Nat} {ts : List Ty} {qs : List TyP} {W : World} (h : ScS B n ts p qs W) (hn : n = ts.length) (k : Nat) (t : Ty) (hk : ts[k]? = some t) (hl : t.names.length ≤ 1000000000) : FullAt W p k t := by
  obtain ⟨⟨H, cnt, a, c, fv, av, h1, h2, h3, h4, h5, h6, h7, h8⟩, h9, h10⟩ := h
  rw [← h9] at hk hn
  have hkq : k < qs.length := by
    rcases Nat.lt_or_ge k qs.length with h | h
    · exact h
    · rw [List.getElem?_eq_none (by simpa using h)] at hk; cases hk
  have htk : qs[k].1 = t := by simpa [hkq] using hk
  have hnq : n = qs.length := by simpa using hn
  obtain ⟨gf, cf, rfl⟩ : ∃ gf cf, fv = .slice (some ⟨gf, 0, none⟩) n cf := by
    rcases h7.1.2 with ⟨e', hl⟩ | ⟨g', cap, cur, e', _⟩
    · rw [hl] at hnq; omega
    · exact ⟨g', cap, e'⟩
  have ho := h10 qs[k] (List.getElem_mem _)
  obtain ⟨na, nc, hnv⟩ := row_slice ho
  have hs := ho.sl
  have s4 := cell_of_row _ _ 4 _ _ _ h5
  refine ⟨gf, n, cf, na, nc, by omega, TySl_len h7, s4, hl, ?_, fun i u hu => nine_cells h7 k i hkq u ?_⟩
  · rw [hnv] at hs
    rw [htk] at hs
    exact hs
  · subst htk
    rw [← hnv] at hu
    simpa [tyL, tyA] using hu
set_option maxRecDepth 100000 in
set_option maxHeartbeats 4000000 in
theorem wakes_any (w : World) (ht : HasRules w) (hd : HasDoes w) (htab : HasTab w) (hfo : HasForms w) : Calls Tryz.prog 10 #[] w fun e w' => e = .returned (.bool true) ∧ Ext w w' := by
  have hsm := small_any7 w
  have hnew := fun w1 v ps (x : Ext w w1) (hs : TySl w1 v ps) (he : ps.map Prod.fst = [tyO, tyC]) => New_ok w1 v ps hs (ht.ext x) (by rw [he]; exact ok_small)
  have cKey := fun w1 a (x : Ext w w1) => Key_eq w1 a (ht.ext x) (hd.ext x) 1 (by decide) 0 (by decide) (by decide) (keySp true) (KeyOf.fold (htab.ext x)) ⟨#[32, 84, 119, 111, 32, 32, 87, 111, 114, 100, 115, 32]⟩ (by decide)
  rw [show keySp true (byt ⟨#[32, 84, 119, 111, 32, 32, 87, 111, 114, 100, 115, 32]⟩) = some [116, 119, 111, 32, 119, 111, 114, 100, 115] by decide] at cKey
  have dKey : ∀ w1 (a : Addr), Ext w w1 → Calls Tryz.prog 12 #[.pointer (some a), .int .i8 1, .string ⟨#[32, 84, 119, 111, 32, 32, 87, 111, 114, 100, 115, 32]⟩] w1 fun e w' => e = .returned (.tuple #[.string ⟨#[116, 119, 111, 32, 119, 111, 114, 100, 115]⟩, .bool true]) ∧ Ext w1 w' := cKey
  have cF1 := fun w1 p (x : Ext w w1) (h : FullAt w1 p 1 tyC) => Fits_text w1 p 1 tyC h (by rw [toList_byt]; rfl) rfl (x.cell hfo) (htab.ext x) ⟨#[120]⟩ (by decide)
  have cF0 := fun w1 p (x : Ext w w1) (h : FullAt w1 p 1 tyC) => Fits_text w1 p 1 tyC h (by rw [toList_byt]; rfl) rfl (x.cell hfo) (htab.ext x) ⟨#[]⟩ (by decide)
  rw [show (keySp false (byt ⟨#[120]⟩)).isSome = true by decide] at cF1
  rw [show (keySp false (byt ⟨#[]⟩)).isSome = false by decide] at cF0
  have cE1 := fun w1 a (x : Ext w w1) => Equal_some w1 a (ht.ext x) (hd.ext x) 1 (by decide) 0 (by decide) (by decide) (keySp true) (KeyOf.fold (htab.ext x)) ⟨#[65]⟩ ⟨#[97]⟩ (by decide) (by decide) [97] (by decide) 1 (by decide)
  have cE2 := fun w1 a (x : Ext w w1) => Equal_none w1 a (ht.ext x) (hd.ext x) 1 (by decide) 0 (by decide) (by decide) (keySp true) (KeyOf.fold (htab.ext x)) ⟨#[65]⟩ ⟨#[]⟩ (by decide) (by decide)
  have cE3 := fun w1 a (x : Ext w w1) => Equal_some w1 a (ht.ext x) (hd.ext x) 1 (by decide) 0 (by decide) (by decide) (keySp true) (KeyOf.fold (htab.ext x)) ⟨#[82, 111, 98, 101, 114, 116]⟩ ⟨#[82, 117, 112, 101, 114, 116]⟩ (by decide) (by decide) [114, 117, 112, 101, 114, 116] (by decide) 0 (by decide)
  have cS := fun w1 p (x : Ext w w1) (h : FullAt w1 p 1 tyC) => Same_yes w1 p 1 tyC h (by rw [toList_byt]; rfl) ⟨#[65]⟩ ⟨#[97]⟩ (by rw [toList_byt, toList_byt]; decide) (fun w2 y => cE1 w2 ⟨p, 0, none⟩ (x.trans y))
  have cU := fun w1 a (x : Ext w w1) => UpTo_some w1 a (ht.ext x) (hd.ext x) 13 (by decide) 4 (by decide) (by decide) (fun l => (numL l).map numKey) (KeyOf.number w1) ⟨#[49, 48]⟩ ⟨#[57]⟩ (by decide) (by decide) ((numL [57]).map numKey |>.get!) (by decide) 0 (by decide)
  have cR := fun w1 a (x : Ext w w1) => From_some w1 a (ht.ext x) (hd.ext x) 13 (by decide) 4 (by decide) (by decide) (fun l => (numL l).map numKey) (KeyOf.number w1) ⟨#[49, 48]⟩ ⟨#[57]⟩ (by decide) (by decide) ((numL [57]).map numKey |>.get!) (by decide) 1 (by decide)
  have cP := fun w1 a gm (x : Ext w w1) hm => Part_bar w1 a (ht.ext x) (hd.ext x) (htab.ext x) gm 1 hm
  have cL := fun w1 p (x : Ext w w1) (h : FullAt w1 p 1 tyC) => Like_yes w1 p 1 tyC h (by rw [toList_byt]; rfl) rfl ⟨#[82, 111, 98, 101, 114, 116]⟩ ⟨#[82, 117, 112, 101, 114, 116]⟩
    (fun w2 y => by have := isTaken_text w2 (.pointer (some ⟨p, 0, none⟩)) ((x.trans y).cell hfo) (htab.ext (x.trans y)) ⟨#[82, 117, 112, 101, 114, 116]⟩ (by decide); rwa [show (keySp false (byt ⟨#[82, 117, 112, 101, 114, 116]⟩)).isSome = true by decide] at this)
    (fun w2 y => cE3 w2 ⟨p, 0, none⟩ (x.trans y)) (fun w2 => soundsLike_any w2 _ _ (by decide) (by decide) (soundL (byt ⟨#[82, 117, 112, 101, 114, 116]⟩)) rfl (by decide) (by decide))
  clear cKey cE3 ht hd htab hfo
  have mA : True := trivial
  have mB : True := trivial
  go_enter Tryz.func10, Tryz.ntmps10
  go_upto_region 4 with (first
    | (go_at_call 30; refine hsm.mono ?_; rintro _ w1 ⟨v, ps, rfl, hps, hty, x1⟩)
    | (go_at_call 28; refine (hnew _ _ _ x1 hty hps).mono ?_; rintro _ w2 ⟨p, qs, rfl, hsc, x2⟩))
  have hfull : FullAt w2 p 1 tyC := by
    have hl : ps.length = 2 := by have := congrArg List.length hps; simpa using this
    rw [hps] at hsc
    exact hsc.full (by rw [hl]; rfl) 1 tyC rfl (by show 1 ≤ 1000000000; omega)
  have x02 : Hid (Ext w w2) := x1.trans x2
  have fu : Hid (FullAt w2 p 1 tyC) := hfull
  clear hfull hsc hty hps x1 x2 hsm hnew
  go_upto_region 6 with (first
    | (go_at_call 12; refine (dKey _ _ x02.out).mono ?_; rintro _ w3 ⟨rfl, x3⟩)
    | (go_at_call 13; clear mA; refine (cF1 _ _ (x02.out.trans x3) (fu.out.ext x3)).mono ?_; rintro _ w4 ⟨rfl, x4⟩)
    | (go_at_call 13; refine (cF0 _ _ ((x02.out.trans x3).trans x4) ((fu.out.ext x3).ext x4)).mono ?_; rintro _ w5 ⟨rfl, x5⟩)
    | (go_at_call 15; refine (cS _ _ (((x02.out.trans x3).trans x4).trans x5) (((fu.out.ext x3).ext x4).ext x5)).mono ?_; rintro _ w6 ⟨rfl, x6⟩))
  have y : Ext w2 w6 := ((x3.trans x4).trans x5).trans x6
  have x06 : Hid (Ext w w6) := x02.out.trans y
  have fu6 : Hid (FullAt w6 p 1 tyC) := fu.out.ext y
  clear y x3 x4 x5 x6 fu x02 dKey cF1 cF0 cS
  go_upto_region 7 with (first
    | (go_at_call 17; clear mB; refine (cE1 _ _ x06.out).mono ?_; rintro _ w7 ⟨rfl, x7⟩)
    | (go_at_call 17; refine (cE2 _ _ (x06.out.trans x7)).mono ?_; rintro _ w8 ⟨rfl, x8⟩)
    | (go_at_call 23; refine (cR _ _ ((x06.out.trans x7).trans x8)).mono ?_; rintro _ w9 ⟨rfl, x9⟩)
    | (go_at_call 24; refine (cU _ _ (((x06.out.trans x7).trans x8).trans x9)).mono ?_; rintro _ wa ⟨rfl, xa⟩))
  have y : Ext w6 wa := ((x7.trans x8).trans x9).trans xa
  have x0a : Hid (Ext w wa) := x06.out.trans y
  have fua : Hid (FullAt wa p 1 tyC) := fu6.out.ext y
  clear y x7 x8 x9 xa fu6 x06 cE1 cE2 cR cU
  have hB := cell_of_row _ _ 0 _ _ _ (heap_alloc_new wa (.cells #[.string ⟨#[97]⟩] 9))
  have xb : Ext wa (wa.alloc (.cells #[.string ⟨#[97]⟩] 9)) := (Ext.refl wa).alloc _
  have cP1 := cP _ ⟨p, 0, none⟩ _ (x0a.out.trans xb) hB
  have xbh : Hid (Ext wa (wa.alloc (.cells #[.string ⟨#[97]⟩] 9))) := xb
  clear cP hB xb
  go_wp2_with (first
    | (go_at_call 27; refine cP1.mono ?_; rintro _ wb ⟨rfl, xc⟩)
    | (go_at_call 19; refine (cL _ _ ((x0a.out.trans xbh.out).trans xc) ((fua.out.ext xbh.out).ext xc)).mono ?_; rintro _ wd ⟨rfl, xd⟩))
  go_ret
  exact ⟨rfl, ((x0a.out.trans xbh.out).trans xc).trans xd⟩
end Go.Proofs.YtbioickfookjeaaGreatDoor

/-
  The listed tables of schema and match, read as their initialisers lay them.
-/
namespace Go.Proofs.YtbioickfookjeaaGreatDoor
open Go.ChangeShapes Go.WideShapes Go.ChangeAt Go.RowKit

/-- one cell of an array of structs that reads as it is laid -/
theorem arr_field {w : World} {fuel : Nat} {t e : TypeId} {n c : Nat} {fs : Array Field} {cs : List Value} {rows : List (DataW Unit)} {p : List MemPlace} {k : IntKind} (ht : Tryz.prog.underlying t = some (.array n e)) (he : Tryz.prog.underlying e = some (.struct fs)) (hce : Tryz.prog.cellsOf e = c)
    (h : DataW.trod (fun _ => ()) Tryz.prog w 0 (fun _ => true) false fuel t cs = some (.agg rows, p)) (i : Nat) (hi : i < n) (row : List (DataW Unit)) (hr : rows[i]? = some (.agg row)) (j : Nat) (f : Field) (hf : fs[j]? = some f) (hk : Tryz.prog.underlying f.type = some (.int k)) (hc1 : Tryz.prog.cellsOf f.type = 1) (ho : f.offset < c)
    (z : Int) (hz : row[j]? = some (.lit (.int k z))) : cs[i * c + f.offset]? = some (.int k z) := by
  obtain ⟨xs, m, rfl, hx, hl, hxl, hall⟩ := DataW.trod_array ht h
  have hrows : rows = xs.map (·.1) := by
    have := congrArg Prod.fst hx
    simpa using this
  have hxi : (xs[i]?).map (·.1) = some (.agg row) := by rw [← List.getElem?_map, ← hrows, hr]
  obtain ⟨⟨d, q⟩, hxe, hd⟩ := Option.map_eq_some_iff.1 hxi
  simp only at hd
  subst hd
  have h1 := hall i hi
  rw [hxe, hce] at h1
  obtain ⟨ys, m2, rfl, hy, hl2, hyl, hall2⟩ := DataW.trod_struct he h1
  have hrow : row = ys.map (·.1) := by
    have := congrArg Prod.fst hy
    simpa using this
  have hyj : (ys[j]?).map (·.1) = some (.lit (.int k z)) := by rw [← List.getElem?_map, ← hrow, hz]
  obtain ⟨⟨d2, q2⟩, hye, hd2⟩ := Option.map_eq_some_iff.1 hyj
  simp only at hd2
  subst hd2
  have h2 := hall2 j f hf
  rw [hye, hc1] at h2
  obtain ⟨z0, h0, e0, _⟩ := DataW.trod_int hk h2
  simp only [Prod.mk.injEq, DataW.lit.injEq, Lit.int.injEq, true_and] at e0
  obtain ⟨rfl, _⟩ := e0
  have := congrArg (·[0]?) h0
  simpa [List.getElem?_take, List.getElem?_drop, ho] using this
theorem gRul : Tryz.prog.globalNamed "roster/schema.rules" = some 2 := by kernel_rfl
theorem gRulT : (Tryz.prog.globals[2]?).map (·.type) = some 180 := by kernel_rfl
theorem gDo : Tryz.prog.globalNamed "roster/match.rules" = some 0 := by kernel_rfl
theorem gDoT : (Tryz.prog.globals[0]?).map (·.type) = some 137 := by kernel_rfl
theorem gFo : Tryz.prog.globalNamed "roster/match.forms" = some 1 := by kernel_rfl
theorem gFoT : (Tryz.prog.globals[1]?).map (·.type) = some 144 := by kernel_rfl
theorem cellsRul : Tryz.prog.cellsOf 179 = 5 := by kernel_rfl
theorem cellsDo : Tryz.prog.cellsOf 136 = 2 := by kernel_rfl
theorem cellsI8 : Tryz.prog.cellsOf 26 = 1 := by kernel_rfl
theorem cellsFo : Tryz.prog.cellsOf 144 = 9 := by kernel_rfl
def rowsOf : DataW Unit → List (DataW Unit)
  | .agg l => l
  | _ => []
theorem sr_rows : ∀ r, r < 21 → ∃ row, (rowsOf Rows.laid_roster_schema_rules)[r]? = some (.agg row) ∧ row[2]? = some (.lit (.int .i8 (srAt r).1)) ∧ row[3]? = some (.lit (.int .i8 (srAt r).2.1)) ∧ row[4]? = some (.lit (.int .i8 (srAt r).2.2))
  | 0, _ => ⟨_, rfl, rfl, rfl, rfl⟩
  | 1, _ => ⟨_, rfl, rfl, rfl, rfl⟩
  | 2, _ => ⟨_, rfl, rfl, rfl, rfl⟩
  | 3, _ => ⟨_, rfl, rfl, rfl, rfl⟩
  | 4, _ => ⟨_, rfl, rfl, rfl, rfl⟩
  | 5, _ => ⟨_, rfl, rfl, rfl, rfl⟩
  | 6, _ => ⟨_, rfl, rfl, rfl, rfl⟩
  | 7, _ => ⟨_, rfl, rfl, rfl, rfl⟩
  | 8, _ => ⟨_, rfl, rfl, rfl, rfl⟩
  | 9, _ => ⟨_, rfl, rfl, rfl, rfl⟩
  | 10, _ => ⟨_, rfl, rfl, rfl, rfl⟩
  | 11, _ => ⟨_, rfl, rfl, rfl, rfl⟩
  | 12, _ => ⟨_, rfl, rfl, rfl, rfl⟩
  | 13, _ => ⟨_, rfl, rfl, rfl, rfl⟩
  | 14, _ => ⟨_, rfl, rfl, rfl, rfl⟩
  | 15, _ => ⟨_, rfl, rfl, rfl, rfl⟩
  | 16, _ => ⟨_, rfl, rfl, rfl, rfl⟩
  | 17, _ => ⟨_, rfl, rfl, rfl, rfl⟩
  | 18, _ => ⟨_, rfl, rfl, rfl, rfl⟩
  | 19, _ => ⟨_, rfl, rfl, rfl, rfl⟩
  | 20, _ => ⟨_, rfl, rfl, rfl, rfl⟩
  | n + 21, h => absurd h (by omega)
theorem do_rows : ∀ r, r < 21 → ∃ row, (rowsOf Rows.laid_roster_match_rules)[r]? = some (.agg row) ∧ row[0]? = some (.lit (.int .i8 (doAt r).1)) ∧ row[1]? = some (.lit (.int .i8 (doAt r).2))
  | 0, _ => ⟨_, rfl, rfl, rfl⟩
  | 1, _ => ⟨_, rfl, rfl, rfl⟩
  | 2, _ => ⟨_, rfl, rfl, rfl⟩
  | 3, _ => ⟨_, rfl, rfl, rfl⟩
  | 4, _ => ⟨_, rfl, rfl, rfl⟩
  | 5, _ => ⟨_, rfl, rfl, rfl⟩
  | 6, _ => ⟨_, rfl, rfl, rfl⟩
  | 7, _ => ⟨_, rfl, rfl, rfl⟩
  | 8, _ => ⟨_, rfl, rfl, rfl⟩
  | 9, _ => ⟨_, rfl, rfl, rfl⟩
  | 10, _ => ⟨_, rfl, rfl, rfl⟩
  | 11, _ => ⟨_, rfl, rfl, rfl⟩
  | 12, _ => ⟨_, rfl, rfl, rfl⟩
  | 13, _ => ⟨_, rfl, rfl, rfl⟩
  | 14, _ => ⟨_, rfl, rfl, rfl⟩
  | 15, _ => ⟨_, rfl, rfl, rfl⟩
  | 16, _ => ⟨_, rfl, rfl, rfl⟩
  | 17, _ => ⟨_, rfl, rfl, rfl⟩
  | 18, _ => ⟨_, rfl, rfl, rfl⟩
  | 19, _ => ⟨_, rfl, rfl, rfl⟩
  | 20, _ => ⟨_, rfl, rfl, rfl⟩
  | n + 21, h => absurd h (by omega)
theorem rules_of_reads {W : World} (hV : VarRd Tryz.prog W "roster/schema.rules" Rows.laid_roster_schema_rules) : HasRules W := by
  obtain ⟨g, t, cs, fuel, p, h1, h2, h3, h4⟩ := hV
  obtain rfl := Option.some.inj (gRul.symm.trans h1)
  obtain rfl := Option.some.inj (gRulT.symm.trans h2)
  have h5 : DataW.trod (fun _ => ()) Tryz.prog W 0 (fun _ => true) false fuel 180 cs.toList = some (.agg (rowsOf Rows.laid_roster_schema_rules), p) := h4
  intro r hr
  obtain ⟨row, e, e2, e3, e4⟩ := sr_rows r hr
  have c := fun i => World.var?_cell gRul h3 i
  have f2 := arr_field Tryz.underlying180 Tryz.underlying179 cellsRul h5 r hr row e 2 _ rfl Tryz.underlying26 cellsI8 (by decide) _ e2
  have f3 := arr_field Tryz.underlying180 Tryz.underlying179 cellsRul h5 r hr row e 3 _ rfl Tryz.underlying26 cellsI8 (by decide) _ e3
  have f4 := arr_field Tryz.underlying180 Tryz.underlying179 cellsRul h5 r hr row e 4 _ rfl Tryz.underlying26 cellsI8 (by decide) _ e4
  refine ⟨(c _).trans ?_, (c _).trans ?_, (c _).trans ?_⟩
  · simpa using f2
  · simpa using f3
  · simpa using f4
theorem does_of_reads {W : World} (hV : VarRd Tryz.prog W "roster/match.rules" Rows.laid_roster_match_rules) : HasDoes W := by
  obtain ⟨g, t, cs, fuel, p, h1, h2, h3, h4⟩ := hV
  obtain rfl := Option.some.inj (gDo.symm.trans h1)
  obtain rfl := Option.some.inj (gDoT.symm.trans h2)
  have h5 : DataW.trod (fun _ => ()) Tryz.prog W 0 (fun _ => true) false fuel 137 cs.toList = some (.agg (rowsOf Rows.laid_roster_match_rules), p) := h4
  intro r hr
  obtain ⟨row, e, e2, e3⟩ := do_rows r hr
  have c := fun i => World.var?_cell gDo h3 i
  have f2 := arr_field Tryz.underlying137 Tryz.underlying136 cellsDo h5 r hr row e 0 _ rfl Tryz.underlying26 cellsI8 (by decide) _ e2
  have f3 := arr_field Tryz.underlying137 Tryz.underlying136 cellsDo h5 r hr row e 1 _ rfl Tryz.underlying26 cellsI8 (by decide) _ e3
  refine ⟨(c _).trans ?_, (c _).trans ?_⟩
  · simpa using f2
  · simpa using f3
theorem forms_of_reads {W : World} (hV : VarRd Tryz.prog W "roster/match.forms" Rows.laid_roster_match_forms) : HasForms W := by
  obtain ⟨g, t, cs, fuel, p, h1, h2, h3, h4⟩ := hV
  obtain rfl := Option.some.inj (gFo.symm.trans h1)
  obtain rfl := Option.some.inj (gFoT.symm.trans h2)
  have h5 := Lib.cells_of_tab (zs := [1, 2, 3, 4, 5, 6, 7, -1, 8]) Tryz.underlying144 Tryz.underlying26 cellsI8 cellsFo (show DataW.trod (fun _ => ()) Tryz.prog W 0 (fun _ => true) false fuel 144 cs.toList = some (Lib.tabData .i8 [1, 2, 3, 4, 5, 6, 7, -1, 8], p) from h4)
  refine (World.var?_cell gFo h3 0).trans ?_
  have := congrArg (·[0]?) h5
  simpa using this
theorem rd_of {W : World} {l : List (String × DataW Unit)} {n : String} {d : DataW Unit} (hL : laidMet Tryz.prog l W) (hm : (n, d) ∈ l) : VarRd Tryz.prog W n d := by
  obtain ⟨_, hv, _⟩ := hL
  exact laid_rd hv hm
end Go.Proofs.YtbioickfookjeaaGreatDoor

/-
  MatchNames, MatchNil: the walks.
-/
namespace Go.Proofs.YtbioickfookjeaaGreatDoor
open Go.RowKit

set_option maxRecDepth 100000 in
theorem MatchNames_at (w : World) (ht : HasRules w) (hd : HasDoes w) (htab : HasTab w) (hfo : HasForms w) : Calls Tryz.prog 8 #[] w fun e w' => e = .returned (.bool true) ∧ Ext w w' := by
  have hw := wakes_any w ht hd htab hfo
  go_enter Tryz.func8, Tryz.ntmps8
  go_wp2_with (go_at_call 10; refine hw.mono ?_; rintro _ w2 ⟨rfl, x2⟩)
  go_ret
  exact ⟨rfl, x2⟩
set_option maxRecDepth 100000 in
set_option maxHeartbeats 2000000 in
theorem MatchNil_at (w : World) (ht : HasRules w) (hd : HasDoes w) (htab : HasTab w) (hfo : HasForms w) (r k : Int) (s t : ByteArray) : Calls Tryz.prog 7 #[.agg #[.int .i8 r, .int .i64 k, .string s, .string t]] w fun e w' => e = .returned (.bool true) ∧ Ext w w' := by
  have cW := fun w1 (x : Ext w w1) => wakes_any w1 (ht.ext x) (hd.ext x) (htab.ext x) (x.cell hfo)
  have cK := fun w1 => Key_nil w1 r s
  have cF := fun w1 => Fits_nil w1 k s
  have cS := fun w1 => Same_nil w1 k s t
  have cE := fun w1 => Equal_nil w1 r s t
  have cR := fun w1 => From_nil w1 r s t
  have cU := fun w1 => UpTo_nil w1 r s t
  have cP := fun w1 => Part_nil w1 r s t ⟨#[]⟩ (.slice none 0 0)
  have cL := fun w1 => Like_nil w1 k s t
  have hB := heap_alloc_new w (.cells #[.int .i8 r, .int .i64 k, .string s, .string t] 28)
  have x1 : Ext w (w.alloc (.cells #[.int .i8 r, .int .i64 k, .string s, .string t] 28)) := (Ext.refl w).alloc _
  clear ht hd htab hfo
  go_enter Tryz.func7, Tryz.ntmps7
  go_upto_region 1 with fail
  generalize w.alloc (.cells #[.int .i8 r, .int .i64 k, .string s, .string t] 28) = w1 at *
  generalize w.heap.size = g at *
  have b0 := cell_of_row _ _ 0 _ _ _ hB
  have b1 := cell_of_row _ _ 1 _ _ _ hB
  have b2 := cell_of_row _ _ 2 _ _ _ hB
  have b3 := cell_of_row _ _ 3 _ _ _ hB
  simp only [List.getElem?_toArray, List.getElem?_cons_zero, List.getElem?_cons_succ] at b0 b1 b2 b3
  clear hB
  go_wp2_with (first
    | (go_at_call 12; refine (cK _).mono ?_; rintro _ w2 ⟨rfl, x2⟩; have d1 := x2.cell b1; have d2 := x2.cell b2)
    | (go_at_call 13; refine (cF _).mono ?_; rintro _ w3 ⟨rfl, x3⟩; have y3 := x2.trans x3; have d11 := y3.cell b1; have d12 := y3.cell b2; have d13 := y3.cell b3)
    | (go_at_call 15; refine (cS _).mono ?_; rintro _ w4 ⟨rfl, x4⟩; have y4 := y3.trans x4; have d20 := y4.cell b0; have d22 := y4.cell b2; have d23 := y4.cell b3)
    | (go_at_call 17; refine (cE _).mono ?_; rintro _ w5 ⟨rfl, x5⟩; have y5 := y4.trans x5; have d30 := y5.cell b0; have d32 := y5.cell b2; have d33 := y5.cell b3)
    | (go_at_call 23; refine (cR _).mono ?_; rintro _ w6 ⟨rfl, x6⟩; have y6 := y5.trans x6; have d40 := y6.cell b0; have d42 := y6.cell b2; have d43 := y6.cell b3)
    | (go_at_call 24; refine (cU _).mono ?_; rintro _ w7 ⟨rfl, x7⟩; have y7 := y6.trans x7; have d50 := y7.cell b0; have d52 := y7.cell b2; have d53 := y7.cell b3)
    | (go_at_call 27; refine (cP _).mono ?_; rintro _ w8 ⟨rfl, x8⟩; have y8 := y7.trans x8; have d61 := y8.cell b1; have d62 := y8.cell b2; have d63 := y8.cell b3)
    | (go_at_call 19; refine (cL _).mono ?_; rintro _ w9 ⟨rfl, x9⟩; have y9 := y8.trans x9)
    | (go_at_call 10; refine (cW _ (x1.trans y9)).mono ?_; rintro _ wa ⟨rfl, xa⟩))
  go_ret
  exact ⟨rfl, (x1.trans y9).trans xa⟩
end Go.Proofs.YtbioickfookjeaaGreatDoor

/-
  What every statement's card needs: arguments that nobody wrote read behind the call as they did.
-/
namespace Go.Proofs.YtbioickfookjeaaGreatDoor
open Go.ChangeShapes Go.WideShapes Go.ChangeAt Go.RowKit

theorem ownKnob_none : ownKnob Tryz.prog.godebug = none := by kernel_rfl
theorem kids : Kids Tryz.prog (· < Tryz.prog.types.size) := kids_rows (by kernel_rfl) (by kernel_rfl)
theorem full : ∀ t e, t < Tryz.prog.types.size → Tryz.prog.underlying t = some (.slice e) → 0 < Tryz.prog.cellsOf e := slices_full_of Tryz.prog (by kernel_rfl)

theorem trodAll_carry {H : Type} {enc : TypeId × Value → H} {W W' : World} {sp : Nat → Bool} : ∀ {ts : List TypeId} {vs : List Value} {ds : List (DataW H)} {ps : List MemPlace}, DataW.TrodAll enc Tryz.prog W 0 sp true ts vs ds ps → (∀ p ∈ ps, W.sameAt W' p) → DataW.TrodAll enc Tryz.prog W' 0 sp true ts vs ds ps
  | [], [], [], _, h, _ => h
  | _ :: _, _ :: _, _ :: _, _, ⟨p, q, ⟨n, h1⟩, h2, e⟩, hs => ⟨p, q, ⟨n, DataW.trod_carry n _ _ _ h1 (fun x hx => hs x (by rw [e]; exact List.mem_append_left _ hx))⟩, trodAll_carry h2 (fun x hx => hs x (by rw [e]; exact List.mem_append_right _ hx)), e⟩

/-- the arguments, read again -/
theorem args_again {H : Type} {enc : TypeId × Value → H} {W W' : World} {ts : List TypeId} {vs : List Value} {ds : List (DataW H)} {ps : List MemPlace} (ht : ∀ t ∈ ts, t < Tryz.prog.types.size) (h : DataW.TrodAll enc Tryz.prog W 0 (fun _ => true) true ts vs ds ps) (hlt : ∀ p ∈ ps, p.block < W.heap.size) (hx : Ext W W') :
    DataW.TrodAll enc Tryz.prog W' 0 (fun b => decide (b < W.heap.size)) true ts vs ds ps :=
  trodAll_carry (DataW.TrodAll.respare kids full ht h (fun p hp => by simpa using hlt p hp)) (fun p hp => Below.same hx (hlt p hp))
end Go.Proofs.YtbioickfookjeaaGreatDoor

/-
  An Ask that comes in.
-/
namespace Go.Proofs.YtbioickfookjeaaGreatDoor
open Go.ChangeShapes Go.WideShapes Go.ChangeAt Go.RowKit

set_option maxRecDepth 100000
theorem cellsAsk : Tryz.prog.cellsOf 28 = 4 := by kernel_rfl
theorem cAi : Tryz.prog.cellsOf 3 = 1 := by kernel_rfl
theorem cAi8 : Tryz.prog.cellsOf 26 = 1 := by kernel_rfl
theorem cAs : Tryz.prog.cellsOf 9 = 1 := by kernel_rfl
theorem fourL {α : Type} {l : List α} (h : l.length = 4) : ∃ a b c d, l = [a, b, c, d] := by
  match l, h with
  | [a, b, c, d], _ => exact ⟨a, b, c, d, rfl⟩
theorem ask_cells {H : Type} {enc : TypeId × Value → H} {W : World} {sp : Nat → Bool} {n : Nat} {cs : List Value} {x : DataW H × List MemPlace} (h : DataW.trod enc Tryz.prog W 0 sp true n 28 cs = some x) :
    ∃ (r k : Int) (s t : ByteArray), cs = [.int .i8 r, .int .i64 k, .string s, .string t] := by
  obtain ⟨xs, m, rfl, hx, hl, hxl, hall⟩ := DataW.trod_struct Tryz.underlying28 h
  rw [cellsAsk] at hl
  obtain ⟨c0, c1, c2, c3, rfl⟩ := fourL hl
  obtain ⟨x0, x1, x2, x3, rfl⟩ : ∃ x0 x1 x2 x3, xs = [x0, x1, x2, x3] := fourL hxl
  have f0 := hall 0 _ rfl
  have f1 := hall 1 _ rfl
  have f2 := hall 2 _ rfl
  have f3 := hall 3 _ rfl
  change DataW.trod _ _ _ _ _ _ _ 26 (([c0, c1, c2, c3].drop 0).take (Tryz.prog.cellsOf 26)) = some x0 at f0
  change DataW.trod _ _ _ _ _ _ _ 3 (([c0, c1, c2, c3].drop 1).take (Tryz.prog.cellsOf 3)) = some x1 at f1
  change DataW.trod _ _ _ _ _ _ _ 9 (([c0, c1, c2, c3].drop 2).take (Tryz.prog.cellsOf 9)) = some x2 at f2
  change DataW.trod _ _ _ _ _ _ _ 9 (([c0, c1, c2, c3].drop 3).take (Tryz.prog.cellsOf 9)) = some x3 at f3
  rw [cAi8] at f0
  rw [cAi] at f1
  rw [cAs] at f2 f3
  obtain ⟨z0, h0, _⟩ := DataW.trod_int Tryz.underlying26 f0
  obtain ⟨z1, h1, _⟩ := DataW.trod_int Tryz.underlying3 f1
  obtain ⟨z2, h2, _⟩ := DataW.trod_string Tryz.underlying9 f2
  obtain ⟨z3, h3, _⟩ := DataW.trod_string Tryz.underlying9 f3
  simp only [List.drop_succ_cons, List.drop_zero, List.take_succ_cons, List.take_zero, List.cons.injEq, and_true] at h0 h1 h2 h3
  subst h0 h1 h2 h3
  exact ⟨z0, z1, z2, z3, rfl⟩
theorem open_ask {H : Type} {enc : TypeId × Value → H} {W : World} {base : Nat} {v : Value} {d : DataW H} {p : List MemPlace} (hval : Value.okWide Tryz.prog W .any base 28 v) (h : DataW.Trod enc Tryz.prog W 0 (fun _ => true) true 28 v d p) :
    ∃ (r k : Int) (s t : ByteArray), v = .agg #[.int .i8 r, .int .i64 k, .string s, .string t] := by
  obtain ⟨cs, rfl, hcs⟩ := okWide_struct Tryz.underlying28 hval
  obtain ⟨fuel, hf⟩ := h
  obtain ⟨r, k, s, t, e⟩ := ask_cells hf
  simp only [Value.cells] at e
  obtain rfl : cs = #[.int .i8 r, .int .i64 k, .string s, .string t] := by rw [← Array.toList_inj]; exact e
  exact ⟨r, k, s, t, rfl⟩
end Go.Proofs.YtbioickfookjeaaGreatDoor

/-
  MatchNil: the call returns true; the listed tables start as the program's text lays them.
-/
namespace Go.Proofs.YtbioickfookjeaaGreatDoor.matchNil
open Go.ChangeShapes Go.WideShapes Go.ChangeAt Go.RowKit
open Go.ChangeMaps (open_string shut_string)

set_option maxRecDepth 100000 in
theorem contract (H : Type) (enc : TypeId × Value → H) (W : World) (base : Nat) (args : Array Value) (ds gs : List (DataW H)) (before : List MemPlace)
    (hval : ∀ (j : Nat) t v, Tryz.f7.params[j]? = some t → args[j]? = some v → Value.okWide Tryz.prog W .any base t v)
    (hW : DataW.Whole enc Tryz.prog Tryz.f7.params.toList Rows.matchNilSpec.vars false W args.toList ds gs before) (_hsz0 : (DataW.weightsEach Tryz.prog (Tryz.f7.params.toList ++ (OpenSpec.ofChange Rows.matchNilSpec).bare.plain.varTypes Tryz.prog) (ds ++ gs)).all (· ≤ reachBytes) = true) (hL : laidMetH Tryz.prog Rows.matchNilRow.laid W) :
    Calls Tryz.prog 7 args W fun e W' => ∃ v, e = .returned v ∧ Rows.matchNilSpec.post enc Tryz.prog Tryz.f7 false true false false W args v W' := by
  have hW' := hW
  have hlt := hW.lt
  obtain ⟨p, q, hA0, hV, rfl, _, _⟩ := hW
  have hA : DataW.TrodAll enc Tryz.prog W 0 (fun _ => true) true Tryz.f7.params.toList args.toList ds p := hA0
  have hAa := hA
  rw [Tryz.params7] at hA hval
  obtain ⟨v0, vs0, d0, ds0, p0, q0, hargs, rfl, rfl, h0, r0⟩ := trodAll_cons hA
  obtain ⟨rfl, rfl, rfl⟩ := trodAll_nil r0
  obtain rfl : args = #[v0] := by cases args; simp_all
  obtain ⟨rfl, rfl⟩ := trodVars_none hV
  obtain ⟨r, k, s, t, rfl⟩ := open_ask (hval 0 28 v0 rfl rfl) h0
  clear hA0
  simp only [List.append_nil] at hW' hlt hAa
  refine (MatchNil_at W (rules_of_reads (rd_of (show laidMet Tryz.prog Rows.matchNilRow.laid W from hL) (.tail _ (.tail _ (.tail _ (.tail _ (.tail _ (.head _)))))))) (does_of_reads (rd_of (show laidMet Tryz.prog Rows.matchNilRow.laid W from hL) (.tail _ (.tail _ (.tail _ (.tail _ (.tail _ (.tail _ (.tail _ (.tail _ (.head _))))))))))) (tab_of (show laidMet Tryz.prog Rows.matchNilRow.laid W from hL) (.tail _ (.tail _ (.tail _ (.tail _ (.head _)))))) (forms_of_reads (rd_of (show laidMet Tryz.prog Rows.matchNilRow.laid W from hL) (.tail _ (.tail _ (.tail _ (.tail _ (.tail _ (.tail _ (.tail _ (.head _)))))))))) r k s t).mono fun e W' ⟨he, hg⟩ => ?_
  subst he
  refine ⟨_, rfl, _, _, _, [], _, [], hW', ?_, args_again (by rw [Tryz.params7]; decide) hAa hlt hg, ?_, Below.frame hg _, fun h => by cases h⟩
  · exact trodAll_mk1 (shut_bool Tryz.underlying4 _)
  · rfl

theorem reads (os : Os) {H : Type} (enc : TypeId × Value → H) : ∃ places, DataW.whole enc Tryz.prog ((laidWorld os).forCall (fun _ _ => 0) ⟨#[], #[.agg #[.int .i8 0, .int .i64 0, .string ⟨#[]⟩, .string ⟨#[]⟩]], []⟩).memory Tryz.f7.params.toList Rows.matchNilSpec.vars false (#[.agg #[.int .i8 0, .int .i64 0, .string ⟨#[]⟩, .string ⟨#[]⟩]] : Array Value).toList 8 = some ([.agg [.lit (.int .i8 0), .lit (.int .i64 0), .lit (.string []), .lit (.string [])]], [], places) :=
  ⟨[], by kernel_rfl⟩

set_option maxRecDepth 100000 in
theorem lifted (os : Os) (started : os.Started) (H : Type) (enc : TypeId × Value → H) (F : Stop.Interp) :
    ReturnsInHanded {} Tryz.checked os 7 .any ((OpenSpec.ofChange Rows.matchNilSpec).preRow enc Tryz.prog Tryz.f7 Rows.matchNilRow.domain false Rows.matchNilRow.laid) (((OpenSpec.ofChange Rows.matchNilSpec).at F).post enc Tryz.prog Tryz.f7 false true false false) := by
  obtain ⟨places, hx⟩ := reads os enc
  refine returnsInHanded_of_row (C := Tryz.checked) (s := OpenSpec.ofChange Rows.matchNilSpec) ownK started (by kernel_rfl) Tryz.func7
    (witness_row_atRef (enc := enc) (C := Tryz.checked) false (laidWorld os) #[.agg #[.int .i8 0, .int .i64 0, .string ⟨#[]⟩, .string ⟨#[]⟩]] rfl (by kernel_rfl) (by kernel_rfl) (by kernel_rfl)
      (OpenSpec.preRow_of_cond 8 hx (by kernel_rfl) (fun k hk => by cases hk) (by kernel_rfl) (laid_met os _))) ?_
  intro W base args ds gs before hval hW _ _ hsz hL _ _
  exact contract H enc W base args ds gs before hval hW hsz hL

theorem said : Rows.MatchNilSaid :=
  OpenClaim.holds_of_cond 7 Tryz.f7 rfl rfl rfl rfl rfl rfl rfl ⟨rfl, rfl, rfl, rfl, rfl⟩ rfl rfl rfl rfl rfl (by kernel_rfl) Tryz.func7 jf
    (of_decide_eq_true (by kernel_rfl)) (by unfold Func.isWrapper; first | (rw [if_pos (by decide +kernel)]; kernel_rfl) | (rw [if_neg (by decide +kernel)]; exact ⟨rfl, rfl⟩))
    (fun os started H enc _ F => by rw [OpenClaim.pre_eq_preRow]; exact lifted os started H enc F)

theorem plain (f : FuncId) (fn : Func) (hf : Tryz.pinned.checked.prog.funcNamed "roster/rosterlaw07.MatchNil" = some f) (hfn : Tryz.pinned.checked.prog.funcs[f]? = some fn) :
    false = Tryz.pinned.checked.prog.looks [] ∧ ∀ (j : Nat) t, fn.params[j]? = some t → Tryz.pinned.checked.prog.wantsStandIn t = false := by
  obtain rfl : f = 7 := Option.some.inj ((show Tryz.prog.funcNamed "roster/rosterlaw07.MatchNil" = some 7 by kernel_rfl).symm.trans hf) |>.symm
  obtain rfl : fn = Tryz.f7 := (Option.some.inj (Tryz.func7.symm.trans hfn)).symm
  refine ⟨by kernel_rfl, fun j t ht => ?_⟩
  rw [Tryz.params7] at ht
  match j, ht with
  | 0, ht =>
    obtain rfl : t = 28 := by simpa using ht.symm
    exact (show Tryz.prog.wantsStandIn 28 = false by kernel_rfl)
  | j + 1, ht => simp at ht

theorem card : Rows.MatchNilCardSaid :=
  Claim7.holds_tied_plain_at .later [] _ _ _ _ said (fun _ h => by cases h) (by kernel_rfl) (fun _ h => by cases h) matchNil_row_tie rfl ⟨rfl, rfl⟩ (by kernel_rfl) rfl plain (by kernel_rfl)
end Go.Proofs.YtbioickfookjeaaGreatDoor.matchNil
namespace Go.Proofs.YtbioickfookjeaaGreatDoor
theorem matchNil_card : Rows.MatchNilCardSaid := matchNil.card
end Go.Proofs.YtbioickfookjeaaGreatDoor
