/-
  name.partKey, of a part of one pair whose type has the rule of folded texts.
-/
import Derived.Test.YtfiijlmpfpmgiaaGreatDoorSnewcToPwd
import Derived.Test.YtfiijlmpfpmgiaaGreatDoorNmnToOrd
import Derived.Test.YtfiijlmpfpmgiaaGreatDoorNparseToShelf3
import Derived.Test.YtfiijlmpfpmgiaaGreatDoorScl
import Derived.Test.YtfiijlmpfpmgiaaGreatDoorNlay
import Derived.Deep.RegionHeld3
namespace Go.Proofs.YtfiijlmpfpmgiaaGreatDoor
open Go.RowKit

/-- a keyer over a schema -/
structure KyS (K p M H cnt : Nat) (f : List UInt8 → Option Int) (W : World) : Prop where
  kb : W.heap[K]? = some (.cells #[.pointer (some ⟨p, 0, none⟩), .map (some M), .slice none 0 0] 161 (0, 0))
  mb : W.heap[M]? = some (.map (keyRow (.pointer (some ⟨K, 0, none⟩))) 11)
  s2 : W.cell? ⟨p, 2, none⟩ = some (.map (some H))
  mt : MapAt W H cnt f
  tab : HasTab W
  rul : HasRules W
theorem KyS.ext {K p M H cnt : Nat} {f : List UInt8 → Option Int} {W W' : World} (h : KyS K p M H cnt f W) (x : Ext W W') : KyS K p M H cnt f W' := by
  obtain ⟨g, o, c, ht⟩ := h.tab
  exact ⟨(x.block _ (Array.getElem?_eq_some_iff.1 h.kb).1).trans h.kb, (x.block _ (Array.getElem?_eq_some_iff.1 h.mb).1).trans h.mb, x.cell h.s2, h.mt.ext x, ⟨g, o, c, ht.below x (Nat.le_refl _)⟩, h.rul.ext x⟩
theorem infoKd : (Tryz.prog.info? 205).map (fun i => (i.zero, i.size, i.bytes)) = some (some (.agg #[.int .i64 0, .string ⟨#[]⟩]), 2, 24) := by kernel_rfl
theorem cell_past {W1 w2 : World} {v : Value} {t : TypeId} (x : Ext (W1.alloc (.cells #[v] t)).drew w2) : w2.cell? ⟨W1.heap.size, 0, none⟩ = some v ∧ w2.frozen? ⟨W1.heap.size, 0, none⟩ = false := by
  have hb : w2.heap[W1.heap.size]? = some (.cells #[v] t (0, 0)) := (x.block W1.heap.size (by show _ < (W1.alloc _).heap.size; simp)).trans (heap_alloc_new W1 (.cells #[v] t))
  exact ⟨by rw [cell_of_row _ _ 0 _ _ _ hb]; rfl, by simp [World.frozen?, hb]⟩
set_option maxRecDepth 100000 in
set_option maxHeartbeats 4000000 in
theorem partKey_one (w : World) (K p M H cnt : Nat) (f : List UInt8 → Option Int) (h : KyS K p M H cnt f w) (v : Value) (at0 : Av) (hv : AvSl w v [at0]) (j : Nat) (hj : j < 100) (hf : f (lowL (byt at0.t)) = some (j : Int)) (t : Ty) (ht : FullAt w p j t) (he : t.eq = 1) (k : List UInt8) (hk : keySp true (byt at0.v) = some k) (hk9 : k.length < 100) (hs1 : at0.t.size ≤ 65536) (hs2 : at0.v.size ≤ 65536) :
    Calls Tryz.prog 98 #[.pointer (some ⟨K, 0, none⟩), .agg #[v]] w fun e w' => e = .returned (.tuple #[.string (str (layP j k)), .int .i64 0]) ∧ Ext w w' := by
  have hmix : Tryz.prog.follows Departure.mixedOrders = true := by kernel_rfl
  have hT := fun w1 (x : Ext w w1) => Type_at w1 p H cnt f at0.t (x.cell h.s2) (h.mt.ext x) (by omega)
  rw [hf] at hT
  have hF := fun w1 (x : Ext w w1) => Full_ok w1 p j t (ht.ext x)
  have hC := containsK_nil
  have hS := sortK_one
  have hB := fun w1 (x : Ext w w1) a n c => byForm_fold w1 (h.ext x).tab (h.ext x).rul (.pointer (some ⟨K, 0, none⟩)) t.oid a n c t.sup t.syn t.ord t.prt t.single t.ix at0.v hs2
  rw [hk] at hB
  obtain ⟨a, n, c, rfl, hn, hnc⟩ := hv.shape
  obtain rfl : n = 1 := hn.out
  obtain ⟨g, o, rfl, c0, c1⟩ := hv.at 0 (by simp)
  obtain ⟨tt, vv⟩ := at0
  simp only [List.getElem_cons_zero, Nat.zero_mul, Nat.add_zero] at c0 c1 hT hB hs1 hs2 hk hf
  have hh : Hid (KyS K p M H cnt f w) := h
  clear h hv hn hk hf
  have x0 := (Ext.refl w).alloc (.cells #[.slice (some ⟨g, o, none⟩) 1 c] 45)
  have d0 := x0.cell c0
  have d1 := x0.cell c1
  go_enter Tryz.func98, Tryz.ntmps98
  go_wp2
  refine wp_loop_rounds 2 ?_
  rw [rounds_succ]
  go_upto_region 5 with fail
  have x1 := x0.alloc (.cells #[.string tt, .string vv] 48)
  have bx := heap_alloc_new (w.alloc (.cells #[.slice (some ⟨g, o, none⟩) 1 c] 45)) (.cells #[.string tt, .string vv] 48)
  rw [World.size_alloc] at bx
  generalize (w.alloc (.cells #[.slice (some ⟨g, o, none⟩) 1 c] 45)).alloc (.cells #[.string tt, .string vv] 48) = W1 at *
  have k1 := hh.out.ext x1
  have e0 := cell_of_row _ _ 0 _ _ _ k1.kb
  have b0 := cell_of_row _ _ 0 _ _ _ bx
  simp only [List.getElem?_toArray, List.getElem?_cons_zero] at e0 b0
  have hT2 : ∀ W, Ext W1 W → Calls Tryz.prog 93 #[.pointer (some ⟨p, 0, none⟩), .string tt] W fun e w2 => e = .returned (.int .i64 (j : Int)) ∧ Hid (Ext W w2) := fun W xW => hT W (x1.trans xW)
  have hTa : Calls Tryz.prog 93 #[.pointer (some ⟨p, 0, none⟩), .string tt] W1.drew fun e w2 => e = .returned (.int .i64 (j : Int)) ∧ Hid (Ext W1 w2) := (hT2 _ (Ext.refl W1).drew).mono (by rintro _ w2 ⟨rfl, x2⟩; exact ⟨rfl, (Ext.refl W1).drew.trans x2.out⟩)
  have hTb : Calls Tryz.prog 93 #[.pointer (some ⟨p, 0, none⟩), .string tt] (W1.alloc (.cells #[.int .i64 0] 3)).drew fun e w2 => e = .returned (.int .i64 (j : Int)) ∧ Hid (Ext W1 w2 ∧ w2.heap[W1.heap.size]? = some (.cells #[.int .i64 0] 3 (0, 0))) ∧ w2.cell? ⟨W1.heap.size, 0, none⟩ = some (.int .i64 0) ∧ w2.frozen? ⟨W1.heap.size, 0, none⟩ = false := by
    refine (hT2 _ ((Ext.refl W1).alloc _).drew).mono ?_
    rintro _ w2 ⟨rfl, x2⟩
    obtain ⟨q0, q1⟩ := cell_past x2.out
    exact ⟨rfl, ⟨((Ext.refl W1).alloc _).drew.trans x2.out, (x2.out.block W1.heap.size (by show _ < (W1.alloc _).heap.size; simp)).trans (heap_alloc_new W1 (.cells #[.int .i64 0] 3))⟩, q0, q1⟩
  have x1h : Hid (Ext w W1) := x1
  have bxh : Hid _ := bx
  have e0A : ∀ ob : Obj, (W1.alloc ob).cell? ⟨K, 0, none⟩ = some (.pointer (some ⟨p, 0, none⟩)) := fun ob => ((Ext.refl W1).alloc ob).cell e0
  have b0A : ∀ ob : Obj, (W1.alloc ob).cell? ⟨w.heap.size + 1, 0, none⟩ = some (.string tt) := fun ob => ((Ext.refl W1).alloc ob).cell b0
  clear hT x0 x1 c0 c1 d0 d1 bx k1
  go_cut [9] from 20 to 26 (fun s9 wx => ∃ C, s9 = .pointer (some ⟨C, 0, none⟩) ∧ Hid (Ext W1 wx ∧ wx.heap[C]? = some (.cells #[.int .i64 (j : Int)] 3 (0, 0))))
  case first =>
    go_region_with_o (go_at_call 93; first | (refine hTa.mono ?_; rintro _ w2 ⟨rfl, x2⟩) | (refine hTb.mono ?_; rintro _ w2 ⟨rfl, x2, q0, q1⟩))
    all_goals go_wp2
    all_goals go_meet
    all_goals first
      | exact ⟨w2.heap.size, rfl, x2.out.alloc _, heap_alloc_new w2 _⟩
      | exact ⟨W1.heap.size, rfl, x2.out.1.setNew (Nat.le_refl _) _, heap_setCell_at w2 W1.heap.size 0 (.int .i64 (j : Int)) _ _ _ x2.out.2⟩
  case rest =>
    obtain ⟨C, rfl, HC⟩ := hcut
    obtain ⟨xc, hc⟩ := HC.out
    have cc := cell_of_row _ _ 0 _ _ _ hc
    simp only [List.getElem?_toArray, List.getElem?_cons_zero] at cc
    have hjn : ¬ (j : Int) < 0 := by omega
    have hcC : Hid _ := hc
    clear hTa hTb hT2 e0 b0 e0A b0A hc
    go_upto_region 10 with (go_at_call 134; refine (hC _ _).mono ?_; rintro _ w3 ⟨rfl, hw3⟩; subst w3)
    obtain ⟨oid, names, sup, syn, eq, ord, prt, single, ix⟩ := t
    simp only at he hF hB
    subst he
    have x1c : Ext w wc := x1h.out.trans xc
    have kc := hh.out.ext x1c
    have f0 := cell_of_row _ _ 0 _ _ _ kc.kb
    simp only [List.getElem?_toArray, List.getElem?_cons_zero] at f0
    have f0A : ∀ ob : Obj, (wc.alloc ob).cell? ⟨K, 0, none⟩ = some (.pointer (some ⟨p, 0, none⟩)) := fun ob => ((Ext.refl wc).alloc ob).cell f0
    have ccA : ∀ ob : Obj, (wc.alloc ob).cell? ⟨C, 0, none⟩ = some (.int .i64 (j : Int)) := fun ob => ((Ext.refl wc).alloc ob).cell cc
    have hF2 : ∀ W, Ext wc W → Calls Tryz.prog 132 #[.pointer (some ⟨p, 0, none⟩), .int .i64 (j : Int)] W fun e w2 => ∃ ta tn tc, e = .returned (.agg #[.string oid, .slice ta tn tc, .string sup, .int .i8 syn, .int .i8 1, .int .i8 ord, .int .i8 prt, .bool single, .int .u8 ix]) ∧ Hid (Ext W w2) := by
      intro W xW
      refine (hF W (x1c.trans xW)).mono ?_
      rintro _ w2 ⟨ta, tc, rfl, x2⟩
      exact ⟨ta, _, tc, rfl, x2⟩
    have hFa : Calls Tryz.prog 132 #[.pointer (some ⟨p, 0, none⟩), .int .i64 (j : Int)] wc.drew fun e w2 => ∃ ta tn tc, e = .returned (.agg #[.string oid, .slice ta tn tc, .string sup, .int .i8 syn, .int .i8 1, .int .i8 ord, .int .i8 prt, .bool single, .int .u8 ix]) ∧ Hid (Ext wc w2) := (hF2 _ (Ext.refl wc).drew).mono (by rintro _ w2 ⟨ta, tn, tc, rfl, x2⟩; exact ⟨ta, tn, tc, rfl, (Ext.refl wc).drew.trans x2.out⟩)
    have hFb : Calls Tryz.prog 132 #[.pointer (some ⟨p, 0, none⟩), .int .i64 (j : Int)] (wc.alloc (.cells #[.string ⟨#[]⟩, .slice none 0 0, .string ⟨#[]⟩, .int .i8 0, .int .i8 0, .int .i8 0, .int .i8 0, .bool false, .int .u8 0] 137)).drew fun e w2 => ∃ ta tn tc, e = .returned (.agg #[.string oid, .slice ta tn tc, .string sup, .int .i8 syn, .int .i8 1, .int .i8 ord, .int .i8 prt, .bool single, .int .u8 ix]) ∧ Hid (Ext wc w2 ∧ w2.heap[wc.heap.size]? = some (.cells #[.string ⟨#[]⟩, .slice none 0 0, .string ⟨#[]⟩, .int .i8 0, .int .i8 0, .int .i8 0, .int .i8 0, .bool false, .int .u8 0] 137 (0, 0))) ∧ w2.cell? ⟨wc.heap.size, 0, none⟩ = some (.string ⟨#[]⟩) ∧ w2.cell? ⟨wc.heap.size, 1, none⟩ = some (.slice none 0 0) ∧ w2.cell? ⟨wc.heap.size, 2, none⟩ = some (.string ⟨#[]⟩) ∧ w2.cell? ⟨wc.heap.size, 3, none⟩ = some (.int .i8 0) ∧ w2.cell? ⟨wc.heap.size, 4, none⟩ = some (.int .i8 0) ∧ w2.cell? ⟨wc.heap.size, 5, none⟩ = some (.int .i8 0) ∧ w2.cell? ⟨wc.heap.size, 6, none⟩ = some (.int .i8 0) ∧ w2.cell? ⟨wc.heap.size, 7, none⟩ = some (.bool false) ∧ w2.cell? ⟨wc.heap.size, 8, none⟩ = some (.int .u8 0) ∧ (∀ j, w2.frozen? ⟨wc.heap.size, j, none⟩ = false) := by
      refine (hF2 _ ((Ext.refl wc).alloc _).drew).mono ?_
      rintro _ w2 ⟨ta, tn, tc, rfl, x2⟩
      have hb : w2.heap[wc.heap.size]? = some (.cells #[.string ⟨#[]⟩, .slice none 0 0, .string ⟨#[]⟩, .int .i8 0, .int .i8 0, .int .i8 0, .int .i8 0, .bool false, .int .u8 0] 137 (0, 0)) := (x2.out.block wc.heap.size (by show _ < (wc.alloc _).heap.size; simp)).trans (heap_alloc_new wc (.cells #[.string ⟨#[]⟩, .slice none 0 0, .string ⟨#[]⟩, .int .i8 0, .int .i8 0, .int .i8 0, .int .i8 0, .bool false, .int .u8 0] 137))
      exact ⟨ta, tn, tc, rfl, ⟨((Ext.refl wc).alloc _).drew.trans x2.out, hb⟩, cell_of_row _ _ 0 _ _ _ hb, cell_of_row _ _ 1 _ _ _ hb, cell_of_row _ _ 2 _ _ _ hb, cell_of_row _ _ 3 _ _ _ hb, cell_of_row _ _ 4 _ _ _ hb, cell_of_row _ _ 5 _ _ _ hb, cell_of_row _ _ 6 _ _ _ hb, cell_of_row _ _ 7 _ _ _ hb, cell_of_row _ _ 8 _ _ _ hb, frz hb⟩
    have x1ch : Hid (Ext w wc) := x1c
    have xch : Hid (Ext W1 wc) := xc
    clear hF hF2 kc x1c xc HC
    go_cut [10] from 32 to 37 (fun s10 wx => ∃ Dt ta tn tc, s10 = .pointer (some ⟨Dt, 0, none⟩) ∧ Hid (Ext wc wx ∧ wx.heap[Dt]? = some (.cells #[.string oid, .slice ta tn tc, .string sup, .int .i8 syn, .int .i8 1, .int .i8 ord, .int .i8 prt, .bool single, .int .u8 ix] 137 (0, 0))))
    case first =>
      go_region_with_o (go_at_call 132; first | (refine hFa.mono ?_; rintro _ w2 ⟨ta, tn, tc, rfl, x2⟩) | (refine hFb.mono ?_; rintro _ w2 ⟨ta, tn, tc, rfl, x2, q0, q1, q2, q3, q4, q5, q6, q7, q8, q9⟩))
      all_goals go_wp2
      all_goals go_meet
      all_goals first
        | exact ⟨w2.heap.size, ta, tn, tc, rfl, x2.out.alloc _, heap_alloc_new w2 _⟩
        | exact ⟨wc.heap.size, ta, tn, tc, rfl, x2.out.1.then (set9_only w2 wc.heap.size 0 (.string oid) (.slice ta tn tc) (.string sup) (.int .i8 syn) (.int .i8 1) (.int .i8 ord) (.int .i8 prt) (.bool single) (.int .u8 ix)) (fun g hg => by omega), set9_heap w2 wc.heap.size _ _ _ _ _ _ _ _ _ (.string oid) (.slice ta tn tc) (.string sup) (.int .i8 syn) (.int .i8 1) (.int .i8 ord) (.int .i8 prt) (.bool single) (.int .u8 ix) _ _ x2.out.2⟩
    case rest =>
      obtain ⟨Dt, ta, tn, tc, rfl, HD⟩ := hcut
      obtain ⟨xd, hD⟩ := HD.out
      have xw := x1ch.out.trans xd
      have cC := xd.cell cc
      have hV := ((xch.out.trans xd).block _ (Array.getElem?_eq_some_iff.1 bxh.out).1).trans bxh.out
      have v1 := cell_of_row _ _ 1 _ _ _ hV
      have kd := hh.out.ext xw
      have m1 := cell_of_row _ _ 1 _ _ _ kd.kb
      have l1 := look_rule (.pointer (some ⟨K, 0, none⟩)) wc M 11 kd.mb
      have l2 := look_rule (.pointer (some ⟨K, 0, none⟩)) wc.drew M 11 kd.mb
      have y0 := cell_of_row _ _ 0 _ _ _ hD
      have y1 := cell_of_row _ _ 1 _ _ _ hD
      have y2 := cell_of_row _ _ 2 _ _ _ hD
      have y3 := cell_of_row _ _ 3 _ _ _ hD
      have y4 := cell_of_row _ _ 4 _ _ _ hD
      have y5 := cell_of_row _ _ 5 _ _ _ hD
      have y6 := cell_of_row _ _ 6 _ _ _ hD
      have y7 := cell_of_row _ _ 7 _ _ _ hD
      have y8 := cell_of_row _ _ 8 _ _ _ hD
      simp only [List.getElem?_toArray, List.getElem?_cons_zero, List.getElem?_cons_succ] at v1 m1 y0 y1 y2 y3 y4 y5 y6 y7 y8
      have hB2 : Calls Tryz.prog 95 #[.pointer (some ⟨K, 0, none⟩), .agg #[.string oid, .slice ta tn tc, .string sup, .int .i8 syn, .int .i8 1, .int .i8 ord, .int .i8 prt, .bool single, .int .u8 ix], .string vv] wc.drew fun e w2 => e = .returned (.tuple #[.string (str k), .bool true]) ∧ Hid (Ext wc w2) ∧ w2.cell? ⟨K, 1, none⟩ = some (.map (some M)) ∧ w2.cell? ⟨w.heap.size + 1, 1, none⟩ = some (.string vv) ∧ w2.cell? ⟨Dt, 0, none⟩ = some (.string oid) ∧ w2.cell? ⟨Dt, 1, none⟩ = some (.slice ta tn tc) ∧ w2.cell? ⟨Dt, 2, none⟩ = some (.string sup) ∧ w2.cell? ⟨Dt, 3, none⟩ = some (.int .i8 syn) ∧ w2.cell? ⟨Dt, 4, none⟩ = some (.int .i8 1) ∧ w2.cell? ⟨Dt, 5, none⟩ = some (.int .i8 ord) ∧ w2.cell? ⟨Dt, 6, none⟩ = some (.int .i8 prt) ∧ w2.cell? ⟨Dt, 7, none⟩ = some (.bool single) ∧ w2.cell? ⟨Dt, 8, none⟩ = some (.int .u8 ix) := by
        refine (hB wc.drew xw.drew ta tn tc).mono ?_
        rintro _ w2 ⟨rfl, x2⟩
        have x3 := (Ext.refl wc).drew.trans x2
        exact ⟨rfl, x3, x3.cell m1, x3.cell v1, x3.cell y0, x3.cell y1, x3.cell y2, x3.cell y3, x3.cell y4, x3.cell y5, x3.cell y6, x3.cell y7, x3.cell y8⟩
      have xwh : Hid (Ext w wc) := xw
      have cCh : Hid (wc.cell? ⟨C, 0, none⟩ = some (.int .i64 (j : Int))) := cC
      clear hB hFa hFb f0 f0A ccA cc xd hD HD kd hV cC xw
      go_upto_region 11 with fail
      go_cut [11, 12] from 38 to 51 (fun s11 s12 wx => s11 = .string (str k) ∧ s12 = .bool true ∧ Hid (Ext wc wx))
      case first =>
        go_region_held3 (fun W => W.cell? ⟨K, 1, none⟩ = some (.map (some M)) ∧ W.cell? ⟨w.heap.size + 1, 1, none⟩ = some (.string vv) ∧ W.cell? ⟨Dt, 0, none⟩ = some (.string oid) ∧ W.cell? ⟨Dt, 1, none⟩ = some (.slice ta tn tc) ∧ W.cell? ⟨Dt, 2, none⟩ = some (.string sup) ∧ W.cell? ⟨Dt, 3, none⟩ = some (.int .i8 syn) ∧ W.cell? ⟨Dt, 4, none⟩ = some (.int .i8 1) ∧ W.cell? ⟨Dt, 5, none⟩ = some (.int .i8 ord) ∧ W.cell? ⟨Dt, 6, none⟩ = some (.int .i8 prt) ∧ W.cell? ⟨Dt, 7, none⟩ = some (.bool single) ∧ W.cell? ⟨Dt, 8, none⟩ = some (.int .u8 ix)) (go_keep) ((go_at_call 95; refine hB2.mono ?_; rintro _ w2 ⟨rfl, x2, z0, z1, z2, z3, z4, z5, z6, z7, z8, z9, z10⟩))
        all_goals go_wp2
        all_goals go_meet
        all_goals exact ⟨rfl, rfl, x2⟩
      case rest =>
        obtain ⟨rfl, rfl, XE⟩ := hcut
        have cE := XE.out.cell cCh.out
        have hsrc : Src Tryz.prog 2 202 (.slice (some ⟨wc.heap.size, 0, none⟩) 1 1) 1 [.int .i64 (j : Int), .string (str k)] (wc.alloc (.cells #[.int .i64 (j : Int), .string (str k)] 205)) := by
          refine Src.ofSlice _ Tryz.underlying202 ⟨wc.heap.size, 0, none⟩ 1 1 _ rfl (fun i u hu => ?_) (by intro u hu; simp only [List.mem_cons, List.not_mem_nil, or_false] at hu; rcases hu with rfl | rfl <;> rfl)
          rw [Addr.add_lit, Nat.zero_add, cell_of_row _ _ i _ _ _ (heap_alloc_new wc (.cells #[.int .i64 (j : Int), .string (str k)] 205))]
          simpa using hu
        obtain ⟨g5, cap5, w5, hr5, r5, o5⟩ := run_append_rowS (wc.alloc (.cells #[.int .i64 (j : Int), .string (str k)] 205)) (fun _ => False) 202 205 202 202 _ 2 24 infoKd Tryz.underlying202 rfl (.slice none 0 0) 0 [] (row_nil _ _ _ _) _ 1 (by decide) _ hsrc (by decide) (by decide)
        have u0 := World.ownsRow.cells r5.1 (g := g5) rfl 0 _ rfl
        have u1 := World.ownsRow.cells r5.1 (g := g5) rfl 1 _ rfl
        rw [Addr.add_lit, Nat.zero_add] at u0 u1
        have x5 : Hid (Ext w w5) := (xwh.out.trans XE.out).alloc _ |>.then o5 (fun g hg => hg.elim)
        have hLy := lay_one w5 g5 cap5 j (str k) u0 u1 hj (by rw [← byt_length, byt_str]; exact hk9)
        rw [byt_str] at hLy
        have hrh : Hid _ := hr5
        clear hr5 hsrc r5 o5 u0 u1 l1 l2 hB2 y0 y1 y2 y3 y4 y5 y6 y7 y8 m1 v1
        go_wp2_with (at_builtin; refine Hid.out ?_)
        refine Lib.wpList_append_run _ rfl _ _ _ _ rfl _ _ rfl rfl _ _ hrh.out ?_
        go_wp2
        rw [rounds_succ]
        go_wp2_with (first
          | (go_at_call 136; refine (hS _ _ _ _).mono ?_; rintro _ w6 ⟨rfl, hw6⟩; subst w6)
          | (go_at_call 139; refine hLy.mono ?_; rintro _ w7 ⟨rfl, x7⟩))
        go_ret2
        exact ⟨rfl, x5.out.trans x7⟩
end Go.Proofs.YtfiijlmpfpmgiaaGreatDoor
