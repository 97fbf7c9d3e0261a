/-
  rosterlaw06.NameMoves (given alive).
-/
import Derived.Test.YtfonmpahbjijeaaGreatDoorNlen1ToNmark
import Derived.Test.YtfonmpahbjijeaaGreatDoorNspo
import Derived.Test.YtfonmpahbjijeaaGreatDoorNrtwToNrau
import Derived.Deep.RegionWith
namespace Go.Proofs.YtfonmpahbjijeaaGreatDoor
open Go.RowKit

theorem NmOwn.ext {w w' : World} {B : Nat} {v : Value} {pts : List (List Av)} {us : List Value} (h : NmOwn w B v pts us) (x : Ext w w') : NmOwn w' B v pts us := ⟨h.row.ext x, h.pln, fun i a b => (h.new i a b).ext x, h.apart⟩
theorem NmOwn.keptS {S : Nat → Prop} {w w' : World} {B : Nat} {v : Value} {pts : List (List Av)} {us : List Value} (h : NmOwn w B v pts us) (k : Only S w w') (hS : ∀ b, B ≤ b → ¬ S b) : NmOwn w' B v pts us :=
  ⟨h.row.kept k hS, h.pln, fun i a b => (h.new i a b).kept k hS, h.apart⟩
theorem NmOwn.name {w : World} {B : Nat} {v : Value} {pts : List (List Av)} {us : List Value} (h : NmOwn w B v pts us) : NmIn w v us pts := by
  refine ⟨?_, h.pln, fun i a b => row_avsl (h.new i a b)⟩
  refine RowE.sl (e := 45) (S := fun k => B ≤ k) ?_
  have := h.row
  unfold RowE
  simpa using this
theorem NmOwn.foot {w : World} {B : Nat} {v : Value} {pts : List (List Av)} {us : List Value} (h : NmOwn w B v pts us) (b : Nat) (hb : footN v us b) : B ≤ b ∧ b < w.heap.size := by
  rcases hb with hb | ⟨i, hi, hb⟩
  · exact ⟨h.row.2 b hb, h.row.lt hb⟩
  · have hp : i < pts.length := by rw [← h.pln]; exact hi
    exact ⟨(h.new i hi hp).2 b hb, (h.new i hi hp).lt hb⟩
theorem nmOwn_nil (w : World) (B : Nat) : NmOwn w B (.slice none 0 0) [] [] := ⟨row_nil _ _ _ _, rfl, fun i h => by simp at h, fun i j h => by simp at h⟩
theorem nm_one {W : World} {rv : Value} {rl : List Av} (h : AvSl W rv rl) : NmIn (W.alloc (.cells #[rv] 45)) (.slice (some ⟨W.heap.size, 0, none⟩) 1 1) [rv] [rl] := by
  refine ⟨sl_of rfl (Nat.le_refl _) (by decide) fun j hj => ?_, rfl, fun i a b => ?_⟩
  · obtain rfl : j = 0 := by simp at hj; omega
    rw [Nat.zero_add, cell_of_row _ _ 0 _ _ _ (heap_alloc_new W _)]
    rfl
  · obtain rfl : i = 0 := by simp at a; omega
    exact h.ext ((Ext.refl W).alloc _)
theorem above_u (w : World) (qv : Value) (us : List Value) (pts : List (List Av)) (hv : NmIn w qv us pts) (hl : pts.length ≤ 500000000) (hc : ∀ i (h : i < pts.length), pts[i].length ≤ 1000000000) :
    Calls Tryz.prog 18 #[.agg #[qv]] w fun e w' => ∃ a cap us', e = .returned (.tuple #[.agg #[.slice a (pts.drop 1).length cap], .bool (!pts.isEmpty)]) ∧ NmOwn w' w.heap.size (.slice a (pts.drop 1).length cap) (pts.drop 1) us' ∧ Ext w w' := by
  refine (Above_any w qv us pts hv.sl hv.len (fun i a b => ⟨hv.pts i a b, hc i b⟩) (by rw [hv.len]; exact hl)).mono ?_
  rintro e w' ⟨x, ⟨rfl, rfl⟩ | ⟨hne, a, cap, us', rfl, h⟩⟩
  · exact ⟨none, 0, [], rfl, nmOwn_nil _ _, x⟩
  · refine ⟨a, cap, us', ?_, h, x⟩
    cases pts with
    | nil => exact absurd rfl hne
    | cons p ps => rfl
theorem refAbove_u (w : World) (qv : Value) (us : List Value) (pts : List (List Av)) (hv : NmIn w qv us pts) (hl : pts.length ≤ 500000000) (hc : ∀ i (h : i < pts.length), pts[i].length ≤ 1000000000) :
    Calls Tryz.prog 19 #[.agg #[qv]] w fun e w' => ∃ a cap us', e = .returned (.tuple #[.agg #[.slice a (pts.drop 1).length cap], .bool (!pts.isEmpty)]) ∧ NmIn w' (.slice a (pts.drop 1).length cap) us' (pts.drop 1) ∧ Ext w w' := by
  refine (refAbove_any w qv us pts hv (by omega) hc).mono ?_
  rintro e w' ⟨x, ⟨rfl, rfl⟩ | ⟨hne, a, cap, us', rfl, h⟩⟩
  · exact ⟨none, 0, [], rfl, (nmOwn_nil _ 0).name, x⟩
  · refine ⟨a, cap, us', ?_, h, x⟩
    cases pts with
    | nil => exact absurd rfl hne
    | cons p ps => rfl
set_option maxRecDepth 100000 in
set_option maxHeartbeats 16000000 in
theorem NameMoves_core (w : World) (hal : ∀ W, Ext w W → Calls Tryz.prog 12 #[] W fun e w' => e = .returned (.bool true) ∧ Ext W w') (qv : Value) (us : List Value) (pts : List (List Av)) (hq : NmIn w qv us pts) (hf : ∀ l ∈ pts, Fits l) (rv : Value) (rl : List Av) (hrv : AvSl w rv rl) (hrf : Fits rl) :
    Calls Tryz.prog 5 #[.agg #[qv], .agg #[rv]] w fun e w' => e = .returned (.bool true) ∧ Ext w w' := by
  have hmix : Tryz.prog.follows Departure.mixedOrders = true := by kernel_rfl
  obtain ⟨a, n, c, rfl, _⟩ := hq.sl.shape
  obtain ⟨ra, rn, rc, rfl, _, _⟩ := hrv.shape
  have hB1 : ∀ W, Ext w W → Calls Tryz.prog 13 #[.agg #[.slice a n c]] W fun e w' => (e = .returned (.bool true) ∨ e = .returned (.bool false) ∧ cntN pts ≤ 134217728) ∧ Ext W w' := fun W x => beyond_any W _ us pts (hq.ext x) hf
  have hB2 : ∀ W, Ext w W → Calls Tryz.prog 13 #[.agg #[.slice (some ⟨W.heap.size, 0, none⟩) 1 1]] (W.alloc (.cells #[.slice ra rn rc] 45)) fun e w' => (e = .returned (.bool true) ∨ e = .returned (.bool false) ∧ cntN [rl] ≤ 134217728) ∧ Ext W w' := by
    intro W x
    refine (beyond_any _ _ _ _ (nm_one (hrv.ext x)) (fun l hl => by simp only [List.mem_singleton] at hl; subst hl; exact hrf)).mono ?_
    rintro e w' ⟨h, y⟩
    exact ⟨h, ((Ext.refl W).alloc _).trans y⟩
  have hqh : Hid (NmIn w (.slice a n c) us pts) := hq
  have hrh : Hid (AvSl w (.slice ra rn rc) rl) := hrv
  have halh : Hid _ := hal
  obtain ⟨W0, hW0⟩ : ∃ W, W = (w.alloc (.cells #[.slice a n c] 24)).alloc (.cells #[.slice ra rn rc] 45) := ⟨_, rfl⟩
  have x0 : Ext w W0 := by rw [hW0]; exact ((Ext.refl w).alloc _).alloc _
  have b0 : W0.cell? ⟨w.heap.size, 0, none⟩ = some (.slice a n c) := by rw [hW0]; simp
  have r0 : W0.cell? ⟨w.heap.size + 1, 0, none⟩ = some (.slice ra rn rc) := by rw [hW0]; simp
  clear hq hrv hal hf hrf
  go_enter Tryz.func5, Tryz.ntmps5
  rw [hW0] at b0
  go_wp2_with fail
  rw [← hW0] at b0 ⊢
  clear hW0
  go_at_call 13
  refine (hB1 W0 x0).mono ?_
  rintro _ w1 ⟨rfl | ⟨rfl, hc1⟩, x1⟩
  · go_wp2
    go_ret
    exact ⟨rfl, x0.trans x1⟩
  have b1 := x1.cell b0
  have r1 := x1.cell r0
  go_wp2_with fail
  go_at_call 13
  refine (hB2 w1 (x0.trans x1)).mono ?_
  rintro _ w2 ⟨rfl | ⟨rfl, hc2⟩, x2⟩
  · go_wp2
    go_ret
    exact ⟨rfl, (x0.trans x1).trans x2⟩
  have b2 := x2.cell b1
  have r2 := x2.cell r1
  have xw2 : Hid (Ext w w2) := (x0.trans x1).trans x2
  have hsz : Hid (pts.length ≤ 134217728 ∧ (∀ i (h : i < pts.length), pts[i].length ≤ 134217728) ∧ rl.length ≤ 134217728) := ⟨Nat.le_trans (cntN_len pts) hc1, fun i h => Nat.le_trans (cntN_part pts i h) hc1, Nat.le_trans (cntN_part [rl] 0 (by simp)) hc2⟩
  have hsm : Hid (cntN pts ≤ 134217728 ∧ cntN [rl] ≤ 134217728) := ⟨hc1, hc2⟩
  clear b0 r0 b1 r1 x0 x1 x2 hB1 hB2 hc1 hc2
  obtain ⟨m, hm⟩ : ∃ m, Hid (m = pts.length) := ⟨pts.length, (rfl : pts.length = pts.length)⟩
  have hml : m ≤ 134217728 := by rw [hm.out]; exact hsz.out.1
  have hL1 : Calls Tryz.prog 14 #[.agg #[.slice a n c]] w2 fun e w' => ∃ g cap, e = .returned (.agg #[.slice (some ⟨g, 0, none⟩) m cap]) ∧ Hid (∃ sv us fs, LentD w2 w2.heap.size g cap sv us fs pts w') := by
    refine (lent_any w2 _ us pts (hqh.out.ext xw2.out) hsm.out.1).mono ?_
    rintro _ w' ⟨g, cap, sv, us, fs, rfl, h⟩
    exact ⟨g, cap, by rw [hm.out], sv, us, fs, h⟩
  go_upto_region 4 with (go_at_call 14; refine hL1.mono ?_; rintro _ w3 ⟨gx, cx, rfl, hX⟩)
  -- x stands in its box
  obtain ⟨W3, hW3⟩ : ∃ W, W = w3.alloc (.cells #[.slice (some ⟨gx, 0, none⟩) m cx] 24) := ⟨_, rfl⟩
  have y3 : Ext w3 W3 := by rw [hW3]; exact (Ext.refl w3).alloc _
  have hX3 : Hid (∃ sv us fs, LentD w2 w2.heap.size gx cx sv us fs pts W3) := by
    obtain ⟨sv, us, fs, h⟩ := hX.out
    exact ⟨sv, us, fs, h.grow y3⟩
  have x3 : Ext w2 W3 := by obtain ⟨sv, us, fs, h⟩ := hX3.out; exact h.ext
  have bx3 : W3.cell? ⟨w3.heap.size, 0, none⟩ = some (.slice (some ⟨gx, 0, none⟩) m cx) := by rw [hW3]; simp
  have b3 := x3.cell b2
  have r3 := x3.cell r2
  have xw3 : Hid (Ext w W3) := xw2.out.trans x3
  rw [← hW3]
  generalize w3.heap.size = Bx at *
  clear hW3 hX hL1 y3 b2 r2 x3
  have hL2 : Calls Tryz.prog 14 #[.agg #[.slice (some ⟨W3.heap.size, 0, none⟩) 1 1]] (W3.alloc (.cells #[.slice ra rn rc] 45)) fun e w' => ∃ g cap, e = .returned (.agg #[.slice (some ⟨g, 0, none⟩) 1 cap]) ∧ Hid (∃ B sv us fs, LentD W3 B g cap sv us fs [rl] w') := by
    refine (lent_any _ _ _ [rl] (nm_one (hrh.out.ext xw3.out)) hsm.out.2).mono ?_
    rintro _ w' ⟨g, cap, sv, us, fs, rfl, h⟩
    exact ⟨g, cap, rfl, _, sv, us, fs, ⟨h.row, h.pts, h.cut, h.spare, ((Ext.refl W3).alloc _).trans h.ext⟩⟩
  go_upto_region 5 with (go_at_call 14; refine hL2.mono ?_; rintro _ w4 ⟨gy, cy, rfl, hY⟩)
  -- y stands in its box
  obtain ⟨W4, hW4⟩ : ∃ W, W = w4.alloc (.cells #[.slice (some ⟨gy, 0, none⟩) 1 cy] 24) := ⟨_, rfl⟩
  have y4 : Ext w4 W4 := by rw [hW4]; exact (Ext.refl w4).alloc _
  have hY4 : Hid (∃ B sv us fs, LentD W3 B gy cy sv us fs [rl] W4) := by
    obtain ⟨B, sv, us, fs, h⟩ := hY.out
    exact ⟨B, sv, us, fs, h.grow y4⟩
  have x4 : Ext W3 W4 := by obtain ⟨B, sv, us, fs, h⟩ := hY4.out; exact h.ext
  have hX4 : Hid (∃ sv us fs, LentD w2 w2.heap.size gx cx sv us fs pts W4) := by
    obtain ⟨sv, us, fs, h⟩ := hX3.out
    exact ⟨sv, us, fs, h.grow x4⟩
  have by4 : W4.cell? ⟨w4.heap.size, 0, none⟩ = some (.slice (some ⟨gy, 0, none⟩) 1 cy) := by rw [hW4]; simp
  have bx4 := x4.cell bx3
  have b4 := x4.cell b3
  have r4 := x4.cell r3
  have xw4 : Hid (Ext w W4) := xw3.out.trans x4
  have hbx4 : Hid (W4.cell? ⟨Bx, 0, none⟩ = some (.slice (some ⟨gx, 0, none⟩) m cx) ∧ W4.cell? ⟨w4.heap.size, 0, none⟩ = some (.slice (some ⟨gy, 0, none⟩) 1 cy) ∧ W4.cell? ⟨w.heap.size, 0, none⟩ = some (.slice a n c) ∧ W4.cell? ⟨w.heap.size + 1, 0, none⟩ = some (.slice ra rn rc)) := ⟨bx4, by4, b4, r4⟩
  rw [← hW4]
  generalize w4.heap.size = By at *
  clear hW4 hY hL2 y4 b3 r3 bx3 x4 hX3 xw3
  -- what stands above
  obtain ⟨p, hp⟩ : ∃ p, Hid (p = (pts.drop 1).length) := ⟨(pts.drop 1).length, (rfl : (pts.drop 1).length = (pts.drop 1).length)⟩
  obtain ⟨bb, hbb⟩ : ∃ b, Hid (b = !pts.isEmpty) := ⟨!pts.isEmpty, (rfl : (!pts.isEmpty) = !pts.isEmpty)⟩
  have hb1 : (bb != bb) = false := by simp
  have hAb : Calls Tryz.prog 18 #[.agg #[.slice (some ⟨gx, 0, none⟩) m cx]] W4 fun e w' => ∃ ua uc, e = .returned (.tuple #[.agg #[.slice ua p uc], .bool bb]) ∧ Hid (∃ uus, NmOwn w' W4.heap.size (.slice ua p uc) (pts.drop 1) uus ∧ Ext W4 w') := by
    obtain ⟨sv, us, fs, h⟩ := hX4.out
    have hn := h.name.2
    rw [← hm.out] at hn
    refine (above_u W4 _ us pts hn (by have := hsz.out.1; omega) (fun i h => by have := hsz.out.2.1 i h; omega)).mono ?_
    rintro _ w' ⟨ua, uc, uus, rfl, h1, h2⟩
    rw [← hp.out] at h1 ⊢
    rw [← hbb.out]
    exact ⟨ua, uc, rfl, uus, h1, h2⟩
  go_upto_region 6 with (go_at_call 18; refine hAb.mono ?_; rintro _ w5 ⟨ua, uc, rfl, hU⟩)
  obtain ⟨W5, hW5⟩ : ∃ W, W = w5.alloc (.cells #[.slice ua p uc] 24) := ⟨_, rfl⟩
  have y5 : Ext w5 W5 := by rw [hW5]; exact (Ext.refl w5).alloc _
  have hU5 : Hid (∃ uus, NmOwn W5 W4.heap.size (.slice ua p uc) (pts.drop 1) uus ∧ (∀ b, footN (.slice ua p uc) uus b → b < w5.heap.size)) := by
    obtain ⟨uus, h1, h2⟩ := hU.out
    exact ⟨uus, h1.ext y5, fun b hb => (h1.foot b hb).2⟩
  have x5 : Ext W4 W5 := by obtain ⟨uus, h1, h2⟩ := hU.out; exact h2.trans y5
  have bu5 : W5.cell? ⟨w5.heap.size, 0, none⟩ = some (.slice ua p uc) := by rw [hW5]; simp
  have hbu : Hid (w5.heap.size < W5.heap.size) := by show _ < _; rw [hW5]; simp
  have bx5 := x5.cell bx4
  have by5 := x5.cell by4
  have b5 := x5.cell b4
  have r5 := x5.cell r4
  have x5h : Hid (Ext W4 W5) := x5
  rw [← hW5]
  generalize w5.heap.size = Bu at *
  clear hW5 hU hAb y5 x5
  have hRa : Calls Tryz.prog 19 #[.agg #[.slice a n c]] W5 fun e w' => ∃ wa wk, e = .returned (.tuple #[.agg #[.slice wa p wk], .bool bb]) ∧ Hid (∃ wus, NmIn w' (.slice wa p wk) wus (pts.drop 1) ∧ Ext W5 w') := by
    refine (refAbove_u W5 _ us pts (hqh.out.ext (xw4.out.trans x5h.out)) (by have := hsz.out.1; omega) (fun i h => by have := hsz.out.2.1 i h; omega)).mono ?_
    rintro _ w' ⟨wa, wk, wus, rfl, h1, h2⟩
    rw [← hp.out] at h1 ⊢
    rw [← hbb.out]
    exact ⟨wa, wk, rfl, wus, h1, h2⟩
  go_upto_region 7 with (go_at_call 19; refine hRa.mono ?_; rintro _ w6 ⟨wa, wk, rfl, hWt⟩)
  obtain ⟨W6, hW6⟩ : ∃ W, W = w6.alloc (.cells #[.slice wa p wk] 24) := ⟨_, rfl⟩
  have y6 : Ext w6 W6 := by rw [hW6]; exact (Ext.refl w6).alloc _
  have hWt6 : Hid (∃ wus, NmIn W6 (.slice wa p wk) wus (pts.drop 1)) := by
    obtain ⟨wus, h1, h2⟩ := hWt.out
    exact ⟨wus, h1.ext y6⟩
  have x6 : Ext W5 W6 := by obtain ⟨wus, h1, h2⟩ := hWt.out; exact h2.trans y6
  have bw6 : W6.cell? ⟨w6.heap.size, 0, none⟩ = some (.slice wa p wk) := by rw [hW6]; simp
  have bu6 := x6.cell bu5
  have bx6 := x6.cell bx5
  have by6 := x6.cell by5
  have b6 := x6.cell b5
  have r6 := x6.cell r5
  have x6h : Hid (Ext W5 W6) := x6
  rw [← hW6]
  generalize w6.heap.size = Bw at *
  clear hW6 hWt hRa y6 x6 bu5 bx5 by5 b5 r5 bx4 by4 b4 r4
  -- what stands under
  have xw6 : Hid (Ext w W6) := (xw4.out.trans x5h.out).trans x6h.out
  have x46 : Hid (Ext W4 W6) := x5h.out.trans x6h.out
  obtain ⟨ya, yn, yc, hy6, hyA⟩ : ∃ ya yn yc, W6.cell? ⟨gy, 0, none⟩ = some (.slice ya yn yc) ∧ Hid (AvSl W6 (.slice ya yn yc) rl) := by
    obtain ⟨B, sv, us, fs, h⟩ := hY4.out
    obtain ⟨g1, o1, ya, yn, yc, e, c1, _, av, _⟩ := ((h.grow x46.out).name.2).part 0 (Nat.one_pos)
    cases e
    have av' : AvSl W6 (.slice ya yn yc) rl := by simpa using av
    exact ⟨ya, yn, yc, by simpa using c1, av'⟩
  have hcy : 1 ≤ cy := by
    obtain ⟨B, sv, us, fs, h⟩ := hY4.out
    exact (h.name.2.sl.len).2.1
  obtain ⟨p2, hp2⟩ : ∃ p, Hid (p = (rl :: pts).length) := ⟨(rl :: pts).length, (rfl : (rl :: pts).length = (rl :: pts).length)⟩
  have hUn : ∀ W, Ext W6 W → Calls Tryz.prog 20 #[.agg #[.slice ya yn yc], .agg #[.slice (some ⟨gx, 0, none⟩) m cx]] W fun e w' => ∃ da dc, e = .returned (.agg #[.slice da p2 dc]) ∧ Hid (∃ dus, NmOwn w' W.heap.size (.slice da p2 dc) (rl :: pts) dus ∧ Ext W w') := by
    intro W x
    obtain ⟨sv, us, fs, h⟩ := hX4.out
    have hn := (h.grow (x46.out.trans x)).name.2
    rw [← hm.out] at hn
    refine (Under_any W _ rl (hyA.out.ext x) (by have := hsz.out.2.2; omega) _ us pts hn.sl hn.len (fun i a b => ⟨hn.pts i a b, by have := hsz.out.2.1 i b; omega⟩) (by rw [hn.len]; have := hsz.out.1; omega)).mono ?_
    rintro _ w' ⟨h1, da, dc, dus, rfl, h2⟩
    rw [← hp2.out] at h2 ⊢
    exact ⟨da, dc, rfl, dus, h2, h1⟩
  have hUa : Calls Tryz.prog 20 #[.agg #[.slice ya yn yc], .agg #[.slice (some ⟨gx, 0, none⟩) m cx]] W6.drew fun e w' => ∃ da dc, e = .returned (.agg #[.slice da p2 dc]) ∧ Hid (∃ dus, NmOwn w' W6.heap.size (.slice da p2 dc) (rl :: pts) dus ∧ Ext W6 w') := by
    refine (hUn _ (Ext.refl W6).drew).mono ?_
    rintro _ w' ⟨da, dc, rfl, h⟩
    obtain ⟨dus, h1, h2⟩ := h.out
    exact ⟨da, dc, rfl, dus, h1, (Ext.refl W6).drew.trans h2⟩
  have hUb : Calls Tryz.prog 20 #[.agg #[.slice ya yn yc], .agg #[.slice (some ⟨gx, 0, none⟩) m cx]] (W6.alloc (.cells #[.slice none 0 0] 24)).drew fun e w' => ∃ da dc, e = .returned (.agg #[.slice da p2 dc]) ∧ Hid (∃ dus, NmOwn w' (W6.heap.size + 1) (.slice da p2 dc) (rl :: pts) dus ∧ Ext W6 w' ∧ w'.heap[W6.heap.size]? = some (.cells #[.slice none 0 0] 24 (0, 0))) ∧ w'.cell? ⟨W6.heap.size, 0, none⟩ = some (.slice none 0 0) ∧ w'.frozen? ⟨W6.heap.size, 0, none⟩ = false := by
    refine (hUn _ ((Ext.refl W6).alloc _).drew).mono ?_
    rintro _ w' ⟨da, dc, rfl, h⟩
    obtain ⟨dus, h1, h2⟩ := h.out
    have hz : (W6.alloc (.cells #[.slice none 0 0] 24)).drew.heap.size = W6.heap.size + 1 := by show (W6.alloc _).heap.size = _; simp
    have hB : w'.heap[W6.heap.size]? = some (.cells #[.slice none 0 0] 24 (0, 0)) := (h2.block W6.heap.size (by rw [hz]; omega)).trans (heap_alloc_new W6 (.cells #[.slice none 0 0] 24))
    rw [hz] at h1
    exact ⟨da, dc, rfl, ⟨dus, h1, ((Ext.refl W6).alloc _).drew.trans h2, hB⟩, by simpa using cell_of_row _ _ 0 _ _ _ hB, frozen_of_row _ _ 0 _ _ hB⟩
  have m1A : ∀ ob : Obj, (W6.alloc ob).cell? ⟨By, 0, none⟩ = some (.slice (some ⟨gy, 0, none⟩) 1 cy) := fun ob => ((Ext.refl W6).alloc ob).cell by6
  have m2A : ∀ ob : Obj, (W6.alloc ob).cell? ⟨gy, 0, none⟩ = some (.slice ya yn yc) := fun ob => ((Ext.refl W6).alloc ob).cell hy6
  have m3A : ∀ ob : Obj, (W6.alloc ob).cell? ⟨Bx, 0, none⟩ = some (.slice (some ⟨gx, 0, none⟩) m cx) := fun ob => ((Ext.refl W6).alloc ob).cell bx6
  have hs6 : Hid (W6.cell? ⟨Bu, 0, none⟩ = some (.slice ua p uc) ∧ W6.cell? ⟨Bw, 0, none⟩ = some (.slice wa p wk) ∧ W6.cell? ⟨w.heap.size, 0, none⟩ = some (.slice a n c) ∧ W6.cell? ⟨w.heap.size + 1, 0, none⟩ = some (.slice ra rn rc)) := ⟨bu6, bw6, b6, r6⟩
  clear hUn bu6 bw6 b6 r6
  go_cut [11] from 39 to 45 (fun s11 wx => ∃ C da dc, s11 = .pointer (some ⟨C, 0, none⟩) ∧ Hid (∃ dus, NmOwn wx W6.heap.size (.slice da p2 dc) (rl :: pts) dus ∧ Ext W6 wx ∧ wx.heap[C]? = some (.cells #[.slice da p2 dc] 24 (0, 0)) ∧ W6.heap.size ≤ C))
  case first =>
    go_region_with_o (go_at_call 20; first | (refine hUa.mono ?_; rintro _ w7 ⟨da, dc, rfl, x7⟩) | (refine hUb.mono ?_; rintro _ w7 ⟨da, dc, rfl, x7, q0, q1⟩))
    all_goals go_wp2
    all_goals go_meet
    all_goals first
      | (obtain ⟨dus, h1, h2⟩ := x7.out; exact ⟨w7.heap.size, da, dc, rfl, dus, h1.ext ((Ext.refl w7).alloc _), h2.alloc _, heap_alloc_new w7 _, h2.size⟩)
      | (obtain ⟨dus, h1, h2, h3⟩ := x7.out; exact ⟨W6.heap.size, da, dc, rfl, dus, ((h1.kept (setOnly w7 W6.heap.size 0 _) (by omega)).wide (by omega)), h2.setNew (Nat.le_refl _) _, heap_setCell_at w7 W6.heap.size 0 _ _ _ _ h3, Nat.le_refl _⟩)
  case rest =>
    obtain ⟨C, da, dc, rfl, HC⟩ := hcut
    obtain ⟨dus, hD, xc, hC, hCl⟩ := HC.out
    have hDh : Hid (NmOwn wc W6.heap.size (.slice da p2 dc) (rl :: pts) dus) := hD
    have xch : Hid (Ext W6 wc) := xc
    have hClh : Hid (W6.heap.size ≤ C) := hCl
    have cb := xc.cell hs6.out.2.2.1
    have cr := xc.cell hs6.out.2.2.2
    have cd : wc.cell? ⟨C, 0, none⟩ = some (.slice da p2 dc) := by simpa using cell_of_row _ _ 0 _ _ _ hC
    clear HC hD xc hC hCl hUa hUb m1A m2A m3A
    have hRu : Calls Tryz.prog 21 #[.agg #[.slice ra rn rc], .agg #[.slice a n c]] wc fun e w' => ∃ ma mc, e = .returned (.agg #[.slice ma p2 mc]) ∧ Hid (∃ mus, NmIn w' (.slice ma p2 mc) mus (rl :: pts) ∧ Ext wc w') := by
      refine (refUnder_any wc _ rl (hrh.out.ext (xw6.out.trans xch.out)) (by have := hsz.out.2.2; omega) _ us pts (hqh.out.ext (xw6.out.trans xch.out)) (by have := hsz.out.1; omega) (fun i h => by have := hsz.out.2.1 i h; omega)).mono ?_
      rintro _ w' ⟨h1, ma, mc, mus, rfl, h2⟩
      rw [← hp2.out] at h2 ⊢
      exact ⟨ma, mc, rfl, mus, h2, h1⟩
    go_upto_region 9 with (go_at_call 21; refine hRu.mono ?_; rintro _ w8 ⟨ma, mc, rfl, hMu⟩)
    obtain ⟨W8, hW8⟩ : ∃ W, W = w8.alloc (.cells #[.slice ma p2 mc] 24) := ⟨_, rfl⟩
    have y8 : Ext w8 W8 := by rw [hW8]; exact (Ext.refl w8).alloc _
    have hMu8 : Hid (∃ mus, NmIn W8 (.slice ma p2 mc) mus (rl :: pts)) := by
      obtain ⟨mus, h1, h2⟩ := hMu.out
      exact ⟨mus, h1.ext y8⟩
    have x8 : Ext wc W8 := by obtain ⟨mus, h1, h2⟩ := hMu.out; exact h2.trans y8
    have bm8 : W8.cell? ⟨w8.heap.size, 0, none⟩ = some (.slice ma p2 mc) := by rw [hW8]; simp
    have bd8 := x8.cell cd
    have bu8 := (xch.out.trans x8).cell hs6.out.1
    have bw8 := (xch.out.trans x8).cell hs6.out.2.1
    have x68 : Hid (Ext W6 W8) := xch.out.trans x8
    have xc8 : Hid (Ext wc W8) := x8
    rw [← hW8]
    generalize w8.heap.size = Bm at *
    clear hW8 hMu hRu y8 x8 cb cr cd
    have hS1 : Calls Tryz.prog 10 #[.agg #[.slice ua p uc], .agg #[.slice wa p wk]] W8 fun e w' => e = .returned (.bool true) ∧ w'.cell? ⟨C, 0, none⟩ = some (.slice da p2 dc) ∧ w'.cell? ⟨Bm, 0, none⟩ = some (.slice ma p2 mc) ∧ Hid (Ext W8 w') := by
      obtain ⟨uus, h1, _⟩ := hU5.out
      obtain ⟨wus, h2⟩ := hWt6.out
      refine (Same_true W8 _ _ uus wus (pts.drop 1) ((h1.name.ext x6h.out).ext x68.out) (h2.ext x68.out)).mono ?_
      rintro _ w' ⟨rfl, x⟩
      exact ⟨rfl, x.cell bd8, x.cell bm8, x⟩
    have hS2 : ∀ W, Ext W8 W → Calls Tryz.prog 10 #[.agg #[.slice da p2 dc], .agg #[.slice ma p2 mc]] W fun e w' => e = .returned (.bool true) ∧ w'.cell? ⟨Bu, 0, none⟩ = some (.slice ua p uc) ∧ Hid (Ext W8 w') := by
      intro W x
      obtain ⟨mus, h2⟩ := hMu8.out
      refine (Same_true W _ _ dus mus (rl :: pts) ((hDh.out.name.ext xc8.out).ext x) (h2.ext x)).mono ?_
      rintro _ w' ⟨rfl, x'⟩
      exact ⟨rfl, (x.trans x').cell bu8, x.trans x'⟩
    go_wp2_with fail
    go_at_call 10
    refine hS1.mono ?_
    rintro _ w9 ⟨rfl, d9, m9, x9⟩
    go_wp2_with fail
    go_at_call 10
    refine (hS2 w9 x9.out).mono ?_
    rintro _ w10 ⟨rfl, u10, x10⟩
    clear hS1 hS2 d9 m9 x9 bu8 bw8 bm8
    have hSp1 : Calls Tryz.prog 11 #[.agg #[.slice ua p uc]] w10 fun e w' => e = .returned (.bool true) ∧ w'.cell? ⟨C, 0, none⟩ = some (.slice da p2 dc) ∧ Hid (Ext W4 w' ∧ NmOwn w' W6.heap.size (.slice da p2 dc) (rl :: pts) dus) := by
      obtain ⟨uus, h1, h2⟩ := hU5.out
      have h5 : Ext W5 w10 := (x6h.out.trans x68.out).trans x10.out
      refine (spoil_any w10 _ _ (pts.drop 1) uus (h1.ext h5) (by have := hsz.out.1; rw [List.length_drop]; omega) (fun i h => by simp only [List.getElem_drop]; have := hsz.out.2.1 (1 + i) (by rw [List.length_drop] at h; omega); omega)).mono ?_
      rintro _ w' ⟨rfl, o⟩
      have hsz6 := x6h.out.size
      have hlt := hbu.out
      have hcl := hClh.out
      refine ⟨rfl, o.cell (x10.out.cell bd8) (fun hf => by have := h2 _ hf; simp only at this; omega), (x5h.out.trans h5).then o (fun b hb => (h1.foot b hb).1), ((hDh.out.ext xc8.out).ext x10.out).keptS o (fun b hb hf => by have := h2 _ hf; omega)⟩
    go_wp2_with fail
    go_at_call 11
    refine hSp1.mono ?_
    rintro _ w11 ⟨rfl, d11, h11⟩
    have hSp2 : Calls Tryz.prog 11 #[.agg #[.slice da p2 dc]] w11 fun e w' => e = .returned (.bool true) ∧ w'.cell? ⟨Bx, 0, none⟩ = some (.slice (some ⟨gx, 0, none⟩) m cx) ∧ w'.cell? ⟨w.heap.size, 0, none⟩ = some (.slice a n c) ∧ Hid (Ext W4 w') := by
      have h1 := h11.out.2
      refine (spoil_any w11 _ _ (rl :: pts) dus h1 (by have := hsz.out.1; rw [List.length_cons]; omega) (fun i h => by cases i with | zero => have := hsz.out.2.2; simp only [List.getElem_cons_zero]; omega | succ i => have := hsz.out.2.1 i (by simpa using h); simp only [List.getElem_cons_succ]; omega)).mono ?_
      rintro _ w' ⟨rfl, o⟩
      have x' : Ext W4 w' := h11.out.1.then o (fun b hb => Nat.le_trans x46.out.size (h1.foot b hb).1)
      exact ⟨rfl, x'.cell hbx4.out.1, x'.cell hbx4.out.2.2.1, x'⟩
    go_wp2_with fail
    go_at_call 11
    refine hSp2.mono ?_
    rintro _ w12 ⟨rfl, x12, b12, h12⟩
    have hK1 : Calls Tryz.prog 17 #[.agg #[.slice (some ⟨gx, 0, none⟩) m cx], .agg #[.slice a n c]] w12 fun e w' => e = .returned (.bool true) ∧ w'.cell? ⟨By, 0, none⟩ = some (.slice (some ⟨gy, 0, none⟩) 1 cy) ∧ w'.cell? ⟨w.heap.size + 1, 0, none⟩ = some (.slice ra rn rc) ∧ Hid (Ext W4 w') := by
      obtain ⟨sv, us', fs, h⟩ := hX4.out
      have h0 := kept_any w12 gx cx _ _ sv us' fs us pts _ (h.grow h12.out) (hqh.out.ext (xw4.out.trans h12.out))
      rw [← hm.out] at h0
      refine h0.mono ?_
      rintro _ w' ⟨rfl, x⟩
      have x' := h12.out.trans x
      exact ⟨rfl, x'.cell hbx4.out.2.1, x'.cell hbx4.out.2.2.2, x'⟩
    clear hSp1 hSp2 d11 h11 u10 x10 bd8
    go_wp2_with fail
    go_at_call 17
    refine hK1.mono ?_
    rintro _ w13 ⟨rfl, y13, r13, h13⟩
    have hK2 : Calls Tryz.prog 17 #[.agg #[.slice (some ⟨gy, 0, none⟩) 1 cy], .agg #[.slice (some ⟨w13.heap.size, 0, none⟩) 1 1]] (w13.alloc (.cells #[.slice ra rn rc] 45)) fun e w' => e = .returned (.bool true) ∧ Hid (Ext W4 w') := by
      obtain ⟨B, sv, us', fs, h⟩ := hY4.out
      have hx : Ext W4 (w13.alloc (.cells #[.slice ra rn rc] 45)) := h13.out.alloc _
      refine (kept_any _ gy cy _ _ sv us' fs _ [rl] _ (h.grow hx) (nm_one (hrh.out.ext (xw4.out.trans h13.out)))).mono ?_
      rintro _ w' ⟨rfl, x⟩
      exact ⟨rfl, hx.trans x⟩
    go_wp2_with fail
    go_at_call 17
    refine hK2.mono ?_
    rintro _ w14 ⟨rfl, h14⟩
    go_wp2_with fail
    go_at_call 12
    refine (halh.out w14 (xw4.out.trans h14.out)).mono ?_
    rintro _ w15 ⟨rfl, x15⟩
    go_wp2
    go_ret
    exact ⟨rfl, (xw4.out.trans h14.out).trans x15⟩
end Go.Proofs.YtfonmpahbjijeaaGreatDoor
